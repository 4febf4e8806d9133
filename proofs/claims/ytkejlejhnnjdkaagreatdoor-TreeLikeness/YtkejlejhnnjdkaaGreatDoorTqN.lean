/-
 What the laws of tree ask first; TreeLikeness, walked (by gen_tqn.py).
-/
import Derived.Test.YtkejlejhnnjdkaaGreatDoorTqL
import Derived.Test.YtkejlejhnnjdkaaGreatDoorTrQ
import Derived.Test.YtkejlejhnnjdkaaGreatDoorTrBd
import Derived.Test.YtkejlejhnnjdkaaGreatDoorTpE3
namespace Go.Proofs.YtkejlejhnnjdkaaGreatDoor
open Go.RowKit Go.Shelf
set_option maxRecDepth 10000 in
set_option maxHeartbeats 8000000 in
theorem awake17_calls (w : World) : Calls Tryz.prog 9 #[] w fun e w' => e = .returned (.bool true) ∧ Below w.heap.size w w' := by
 have p1 := hid (fun u => parse_calls smallS (by decide) 2 (by decide) 1 29 0 (hid chkSmall) smallT (hid parSmall) u)
 have p2 := hid (fun u => parse_calls ⟨#[91]⟩ (by decide) 2 (by decide) 2 1 0 (hid chkOpen) vt0 (hid parOpen) u)
 have hsm := hid (fun u => small_calls u)
 have hs1 := hid (fun va vb u (h1 : ValAt u smallT va) (h2 : ValAt u smallT vb) => sameV_calls smallT smallT va vb true (hid ⟨fun _ => rfl, fun _ => rfl⟩) u h1 h2)
 go_enter Tryz.func9, Tryz.ntmps9
 go_wp2_with fail
 refine Calls.mono (p1.out w) ?_
 rintro e w1 ⟨x, rfl, hV, hb⟩
 obtain ⟨ako, akc, avo, avc, rfl⟩ := hV.six
 clear p1
 go_upto_region 2 with fail
 have q1 : Below w1.heap.size w1 ((w1.alloc (.cells #[.int .i64 smallT.kind, .bool smallT.b, .string smallT.raw, .string smallT.text, .slice ako smallT.keys.length akc, .slice avo smallT.kids.length avc] 25)).alloc (.cells #[.int .i64 1, .int .i64 29] 27)) := by repeat (first | with_reducible exact Below.refl _ _ | with_reducible refine Below.setCell ?_ (by first | (simp; done) | (simp; omega)) _ | with_reducible refine below_drewN ?_ _ | with_reducible refine Below.alloc ?_ (by first | (simp; done) | (simp; omega)) _ | with_reducible refine Below.drew ?_)
 obtain ⟨a, ha⟩ : ∃ a, Hid (w1.heap.size = a) := ⟨_, rfl⟩
 have A1 : Hid (At ((w1.alloc (.cells #[.int .i64 smallT.kind, .bool smallT.b, .string smallT.raw, .string smallT.text, .slice ako smallT.keys.length akc, .slice avo smallT.kids.length avc] 25)).alloc (.cells #[.int .i64 1, .int .i64 29] 27)) a #[.int .i64 smallT.kind, .bool smallT.b, .string smallT.raw, .string smallT.text, .slice ako smallT.keys.length akc, .slice avo smallT.kids.length avc] 25) := by
  have h := (At.new w1 #[.int .i64 smallT.kind, .bool smallT.b, .string smallT.raw, .string smallT.text, .slice ako smallT.keys.length akc, .slice avo smallT.kids.length avc] 25).alloc (.cells #[.int .i64 1, .int .i64 29] 27)
  rw [ha.out] at h
  exact h
 have V1 : Hid (At ((w1.alloc (.cells #[.int .i64 smallT.kind, .bool smallT.b, .string smallT.raw, .string smallT.text, .slice ako smallT.keys.length akc, .slice avo smallT.kids.length avc] 25)).alloc (.cells #[.int .i64 1, .int .i64 29] 27)) (a + 1) #[.int .i64 1, .int .i64 29] 27) := by
  have h := At.new (w1.alloc (.cells #[.int .i64 smallT.kind, .bool smallT.b, .string smallT.raw, .string smallT.text, .slice ako smallT.keys.length akc, .slice avo smallT.kids.length avc] 25)) #[.int .i64 1, .int .i64 29] 27
  rw [World.size_alloc, ha.out] at h
  exact h
 have B1 := hid (hb.trans (q1.mono hb.size))
 have U1 := hid (hV.keptB q1)
 rw [ha.out]
 clear hV hb q1
 generalize (w1.alloc (.cells #[.int .i64 smallT.kind, .bool smallT.b, .string smallT.raw, .string smallT.text, .slice ako smallT.keys.length akc, .slice avo smallT.kids.length avc] 25)).alloc (.cells #[.int .i64 1, .int .i64 29] 27) = W2 at A1 V1 B1 U1 ⊢
 go_wp2_with fail
 refine Calls.mono (p2.out W2) ?_
 rintro e w2 ⟨x, rfl, hV, hb⟩
 obtain ⟨bko, bkc, bvo, bvc, rfl⟩ := hV.six
 clear p2
 go_upto_region 3 with fail
 have q1 : Below w2.heap.size w2 ((w2.alloc (.cells #[.int .i64 vt0.kind, .bool vt0.b, .string vt0.raw, .string vt0.text, .slice bko vt0.keys.length bkc, .slice bvo vt0.kids.length bvc] 25)).alloc (.cells #[.int .i64 2, .int .i64 1] 27)) := by repeat (first | with_reducible exact Below.refl _ _ | with_reducible refine Below.setCell ?_ (by first | (simp; done) | (simp; omega)) _ | with_reducible refine below_drewN ?_ _ | with_reducible refine Below.alloc ?_ (by first | (simp; done) | (simp; omega)) _ | with_reducible refine Below.drew ?_)
 obtain ⟨r0, hr⟩ : ∃ a, Hid (w2.heap.size = a) := ⟨_, rfl⟩
 have R1 : Hid (At ((w2.alloc (.cells #[.int .i64 vt0.kind, .bool vt0.b, .string vt0.raw, .string vt0.text, .slice bko vt0.keys.length bkc, .slice bvo vt0.kids.length bvc] 25)).alloc (.cells #[.int .i64 2, .int .i64 1] 27)) (r0 + 1) #[.int .i64 2, .int .i64 1] 27) := by
  have h := At.new (w2.alloc (.cells #[.int .i64 vt0.kind, .bool vt0.b, .string vt0.raw, .string vt0.text, .slice bko vt0.keys.length bkc, .slice bvo vt0.kids.length bvc] 25)) #[.int .i64 2, .int .i64 1] 27
  rw [World.size_alloc, hr.out] at h
  exact h
 have A2 := hid ((A1.out.keptAll hb).keptAll q1)
 have V2 := hid ((V1.out.keptAll hb).keptAll q1)
 have B2 := hid ((B1.out.trans (hb.mono B1.out.size)).trans (q1.mono (Nat.le_trans B1.out.size hb.size)))
 have U2 := hid ((U1.out.keptB hb).keptB q1)
 rw [hr.out]
 obtain ⟨r, hr2⟩ : ∃ r, r0 + 1 = r := ⟨_, rfl⟩
 rw [hr2] at R1 ⊢
 clear hV hb q1 A1 V1 B1 U1 hr2
 generalize (w2.alloc (.cells #[.int .i64 vt0.kind, .bool vt0.b, .string vt0.raw, .string vt0.text, .slice bko vt0.keys.length bkc, .slice bvo vt0.kids.length bvc] 25)).alloc (.cells #[.int .i64 2, .int .i64 1] 27) = W3 at A2 V2 B2 U2 R1 ⊢
 have hx0 : (W3.drew.cell? ⟨a, 0, none⟩ = some (.int .i64 smallT.kind) ∧ W3.drew.cell? ⟨a, 1, none⟩ = some (.bool smallT.b) ∧ W3.drew.cell? ⟨a, 2, none⟩ = some (.string smallT.raw) ∧ W3.drew.cell? ⟨a, 3, none⟩ = some (.string smallT.text) ∧ W3.drew.cell? ⟨a, 4, none⟩ = some (.slice ako smallT.keys.length akc) ∧ W3.drew.cell? ⟨a, 5, none⟩ = some (.slice avo smallT.kids.length avc)) ∧ W3.drew.cell? ⟨a + 1, 0, none⟩ = some (.int .i64 1) ∧ W3.drew.cell? ⟨r, 0, none⟩ = some (.int .i64 2) := ⟨⟨A2.out.cell 0, A2.out.cell 1, A2.out.cell 2, A2.out.cell 3, A2.out.cell 4, A2.out.cell 5⟩, V2.out.cell 0, R1.out.cell 0⟩
 have q0 := hid (show Below W3.heap.size W3 W3.drew from (Below.refl _ _).drew)
 have A3 := hid (A2.out.keptAll q0.out)
 have V3 := hid (V2.out.keptAll q0.out)
 have R3 := hid (R1.out.keptAll q0.out)
 have B3 := hid (B2.out.drew)
 have U3 := hid (U2.out.keptB q0.out)
 refine wp_region_held_drew (S := fun w' => (w'.cell? ⟨a, 0, none⟩ = some (.int .i64 smallT.kind) ∧ w'.cell? ⟨a, 1, none⟩ = some (.bool smallT.b) ∧ w'.cell? ⟨a, 2, none⟩ = some (.string smallT.raw) ∧ w'.cell? ⟨a, 3, none⟩ = some (.string smallT.text) ∧ w'.cell? ⟨a, 4, none⟩ = some (.slice ako smallT.keys.length akc) ∧ w'.cell? ⟨a, 5, none⟩ = some (.slice avo smallT.kids.length avc)) ∧ w'.cell? ⟨a + 1, 0, none⟩ = some (.int .i64 1) ∧ w'.cell? ⟨r, 0, none⟩ = some (.int .i64 2)) (by kernel_rfl) hx0 (fun hHeld => ?_)
 clear hHeld q0 A2 V2 B2 U2 R1
 generalize W3.drew = v0 at *
 (refine' wpAnyH_take (i := 0) rfl (by kernel_rfl) (by kernel_rfl) (by kernel_rfl) (fun _ _ _ h => h) (Or.inl ⟨by rfl, ?_⟩) (by assumption) ?_; rotate_left; (· (intro wq hq; (try dsimp only at hq); go_simp; first | done | with_reducible rfl)); simp only [Act.put, List.getElem_toArray, List.getElem_cons_zero, List.setIfInBounds_toArray, List.set_cons_zero, List.set_cons_succ])
 refine wpAnyH_ready (rs := [1]) (by kernel_rfl) (by simp) ?_
 refine AllReadyH.cons rfl (fun K hK => ?_) ?_
 ·rw [if_pos (by rfl)]
  go_simp
  refine Calls.mono (hsm.out v0) ?_
  rintro e v1 ⟨y, rfl, hy, hb⟩
  have A4 := hid (A3.out.keptAll hb)
  have V4 := hid (V3.out.keptAll hb)
  have R4 := hid (R3.out.keptAll hb)
  have B4 := hid (B3.out.trans (hb.mono B3.out.size))
  have U4 := hid (U3.out.keptB hb)
  have Y4 := hid hy
  refine hK.out _ _ ⟨⟨A4.out.cell 0, A4.out.cell 1, A4.out.cell 2, A4.out.cell 3, A4.out.cell 4, A4.out.cell 5⟩, V4.out.cell 0, R4.out.cell 0⟩ (fun _ => ?_)
  clear hK K hb hy A3 V3 B3 U3 R3 hx0 hsm
  refine wpAnyH_ready (rs := [2]) (by kernel_rfl) (by simp) ?_
  refine AllReadyH.cons rfl (fun K hK => ?_) ?_
  ·rw [if_pos (by rfl)]
   go_simp
   refine Calls.mono (hs1.out _ _ v1 U4.out.at Y4.out) ?_
   rintro e v2 ⟨rfl, hb⟩
   have A5 := hid (A4.out.keptAll hb)
   have V5 := hid (V4.out.keptAll hb)
   have R5 := hid (R4.out.keptAll hb)
   have B5 := hid (B4.out.trans (hb.mono B4.out.size))
   refine hK.out _ _ ⟨⟨A5.out.cell 0, A5.out.cell 1, A5.out.cell 2, A5.out.cell 3, A5.out.cell 4, A5.out.cell 5⟩, V5.out.cell 0, R5.out.cell 0⟩ (fun _ => ?_)
   clear hK K hb A4 V4 B4 U4 Y4 R4 hs1
   (refine' wpAnyH_take (i := 3) rfl (by kernel_rfl) (by kernel_rfl) (by kernel_rfl) (fun _ _ _ h => h) (Or.inl ⟨by rfl, ?_⟩) (by assumption) ?_; rotate_left; (· (intro wq hq; (try dsimp only at hq); go_simp; first | done | with_reducible rfl)); simp only [Act.put, List.getElem_toArray, List.getElem_cons_zero, List.getElem_cons_succ, List.setIfInBounds_toArray, List.set_cons_zero, List.set_cons_succ])
   (refine' wpAnyH_take (i := 4) rfl (by kernel_rfl) (by kernel_rfl) (by kernel_rfl) (fun _ _ _ h => h) (Or.inl ⟨by rfl, ?_⟩) (by assumption) ?_; rotate_left; (· (intro wq hq; (try dsimp only at hq); go_simp; first | done | with_reducible rfl)); simp only [Act.put, List.getElem_toArray, List.getElem_cons_zero, List.getElem_cons_succ, List.setIfInBounds_toArray, List.set_cons_zero, List.set_cons_succ])
   (refine' wpAnyH_take (i := 5) rfl (by kernel_rfl) (by kernel_rfl) (by kernel_rfl) (fun _ _ _ h => h) (Or.inl ⟨by rfl, ?_⟩) (by assumption) ?_; rotate_left; (· (intro wq hq; (try dsimp only at hq); go_simp; first | done | with_reducible rfl)); simp only [Act.put, List.getElem_toArray, List.getElem_cons_zero, List.getElem_cons_succ, List.setIfInBounds_toArray, List.set_cons_zero, List.set_cons_succ])
   (refine' wpAnyH_take (i := 6) rfl (by kernel_rfl) (by kernel_rfl) (by kernel_rfl) (fun _ _ _ h => h) (Or.inl ⟨by rfl, ?_⟩) (by assumption) ?_; rotate_left; (· (intro wq hq; (try dsimp only at hq); go_simp; first | done | with_reducible rfl)); simp only [Act.put, List.getElem_toArray, List.getElem_cons_zero, List.getElem_cons_succ, List.setIfInBounds_toArray, List.set_cons_zero, List.set_cons_succ])
   (refine' wpAnyH_take (i := 7) rfl (by kernel_rfl) (by kernel_rfl) (by kernel_rfl) (fun _ _ _ h => h) (Or.inl ⟨by rfl, ?_⟩) (by assumption) ?_; rotate_left; (· (intro wq hq; (try dsimp only at hq); go_simp; first | done | with_reducible rfl)); simp only [Act.put, List.getElem_toArray, List.getElem_cons_zero, List.getElem_cons_succ, List.setIfInBounds_toArray, List.set_cons_zero, List.set_cons_succ])
   (refine' wpAnyH_take (i := 8) rfl (by kernel_rfl) (by kernel_rfl) (by kernel_rfl) (fun _ _ _ h => h) (Or.inl ⟨by rfl, ?_⟩) (by assumption) ?_; rotate_left; (· (intro wq hq; (try dsimp only at hq); go_simp; first | done | with_reducible rfl)); simp only [Act.put, List.getElem_toArray, List.getElem_cons_zero, List.getElem_cons_succ, List.setIfInBounds_toArray, List.set_cons_zero, List.set_cons_succ])
   (refine' wpAnyH_take (i := 9) rfl (by kernel_rfl) (by kernel_rfl) (by kernel_rfl) (fun _ _ _ h => h) (Or.inl ⟨by rfl, ?_⟩) (by assumption) ?_; rotate_left; (· (intro wq hq; (try dsimp only at hq); go_simp; first | done | with_reducible rfl)); simp only [Act.put, List.getElem_toArray, List.getElem_cons_zero, List.getElem_cons_succ, List.setIfInBounds_toArray, List.set_cons_zero, List.set_cons_succ])
   (refine' wpAnyH_take (i := 10) rfl (by kernel_rfl) (by kernel_rfl) (by kernel_rfl) (fun _ _ _ h => h) (Or.inl ⟨by rfl, ?_⟩) (by assumption) ?_; rotate_left; (· (intro wq hq; (try dsimp only at hq); go_simp; first | done | with_reducible rfl)); simp only [Act.put, List.getElem_toArray, List.getElem_cons_zero, List.getElem_cons_succ, List.setIfInBounds_toArray, List.set_cons_zero, List.set_cons_succ])
   (refine' wpAnyH_take (i := 11) rfl (by kernel_rfl) (by kernel_rfl) (by kernel_rfl) (fun _ _ _ h => h) (Or.inl ⟨by rfl, ?_⟩) (by assumption) ?_; rotate_left; (· (intro wq hq; (try dsimp only at hq); go_simp; first | done | with_reducible rfl)); simp only [Act.put, List.getElem_toArray, List.getElem_cons_zero, List.getElem_cons_succ, List.setIfInBounds_toArray, List.set_cons_zero, List.set_cons_succ])
   (refine' wpAnyH_take (i := 12) rfl (by kernel_rfl) (by kernel_rfl) (by kernel_rfl) (fun _ _ _ h => h) (Or.inl ⟨by rfl, ?_⟩) (by assumption) ?_; rotate_left; (· (intro wq hq; (try dsimp only at hq); go_simp; first | done | with_reducible rfl)); simp only [Act.put, List.getElem_toArray, List.getElem_cons_zero, List.getElem_cons_succ, List.setIfInBounds_toArray, List.set_cons_zero, List.set_cons_succ])
   (refine' wpAnyH_take (i := 13) rfl (by kernel_rfl) (by kernel_rfl) (by kernel_rfl) (fun _ _ _ h => h) (Or.inl ⟨by rfl, ?_⟩) (by assumption) ?_; rotate_left; (· (intro wq hq; (try dsimp only at hq); go_simp; first | done | with_reducible rfl)); simp only [Act.put, List.getElem_toArray, List.getElem_cons_zero, List.getElem_cons_succ, List.setIfInBounds_toArray, List.set_cons_zero, List.set_cons_succ])
   (refine' wpAnyH_take (i := 14) rfl (by kernel_rfl) (by kernel_rfl) (by kernel_rfl) (fun _ _ _ h => h) (Or.inl ⟨by rfl, ?_⟩) (by assumption) ?_; rotate_left; (· (intro wq hq; (try dsimp only at hq); go_simp; first | done | with_reducible rfl)); simp only [Act.put, List.getElem_toArray, List.getElem_cons_zero, List.getElem_cons_succ, List.setIfInBounds_toArray, List.set_cons_zero, List.set_cons_succ])
   (refine' wpAnyH_take (i := 15) rfl (by kernel_rfl) (by kernel_rfl) (by kernel_rfl) (fun _ _ _ h => h) (Or.inl ⟨by rfl, ?_⟩) (by assumption) ?_; rotate_left; (· (intro wq hq; (try dsimp only at hq); go_simp; first | done | with_reducible rfl)); simp only [Act.put, List.getElem_toArray, List.getElem_cons_zero, List.getElem_cons_succ, List.setIfInBounds_toArray, List.set_cons_zero, List.set_cons_succ])
   (refine' wpAnyH_take (i := 16) rfl (by kernel_rfl) (by kernel_rfl) (by kernel_rfl) (fun _ _ _ h => h) (Or.inl ⟨by rfl, ?_⟩) (by assumption) ?_; rotate_left; (· (intro wq hq; (try dsimp only at hq); go_simp; first | done | with_reducible rfl)); simp only [Act.put, List.getElem_toArray, List.getElem_cons_zero, List.getElem_cons_succ, List.setIfInBounds_toArray, List.set_cons_zero, List.set_cons_succ])
   (refine' wpAnyH_take (i := 17) rfl (by kernel_rfl) (by kernel_rfl) (by kernel_rfl) (fun _ _ _ h => h) (Or.inl ⟨by rfl, ?_⟩) (by assumption) ?_; rotate_left; (· (intro wq hq; (try dsimp only at hq); go_simp; first | done | with_reducible rfl)); simp only [Act.put, List.getElem_toArray, List.getElem_cons_zero, List.getElem_cons_succ, List.setIfInBounds_toArray, List.set_cons_zero, List.set_cons_succ])
   (refine' wpAnyH_take (i := 18) rfl (by kernel_rfl) (by kernel_rfl) (by kernel_rfl) (fun _ _ _ h => h) (Or.inl ⟨by rfl, ?_⟩) (by assumption) ?_; rotate_left; (· (intro wq hq; (try dsimp only at hq); go_simp; first | done | with_reducible rfl)); simp only [Act.put, List.getElem_toArray, List.getElem_cons_zero, List.getElem_cons_succ, List.setIfInBounds_toArray, List.set_cons_zero, List.set_cons_succ])
   (refine' wpAnyH_take (i := 19) rfl (by kernel_rfl) (by kernel_rfl) (by kernel_rfl) (fun _ _ _ h => h) (Or.inl ⟨by rfl, ?_⟩) (by assumption) ?_; rotate_left; (· (intro wq hq; (try dsimp only at hq); go_simp; first | done | with_reducible rfl)); simp only [Act.put, List.getElem_toArray, List.getElem_cons_zero, List.getElem_cons_succ, List.setIfInBounds_toArray, List.set_cons_zero, List.set_cons_succ])
   (refine' wpAnyH_take (i := 20) rfl (by kernel_rfl) (by kernel_rfl) (by kernel_rfl) (fun _ _ _ h => h) (Or.inl ⟨by rfl, ?_⟩) (by assumption) ?_; rotate_left; (· (intro wq hq; (try dsimp only at hq); go_simp; first | done | with_reducible rfl)); simp only [Act.put, List.getElem_toArray, List.getElem_cons_zero, List.getElem_cons_succ, List.setIfInBounds_toArray, List.set_cons_zero, List.set_cons_succ])
   refine wpAnyH_ready (rs := [21]) (by kernel_rfl) (by simp) ?_
   refine AllReadyH.cons rfl (fun K hK => ?_) ?_
   ·go_simp
    refine hK.out _ _ ⟨⟨A5.out.cell 0, A5.out.cell 1, A5.out.cell 2, A5.out.cell 3, A5.out.cell 4, A5.out.cell 5⟩, V5.out.cell 0, R5.out.cell 0⟩ (fun _ => ?_)
    clear hK K
    refine wpAnyH_done (by kernel_rfl) ?_ _
    go_wp2
    go_ret
    exact ⟨rfl, B5.out⟩
   exact AllReadyH.nil
  exact AllReadyH.nil
 exact AllReadyH.nil
theorem alkB_refl (t : Vt) : AlkB t t (wfV t 1024) := ⟨fun h => ⟨h, h, alk_refl _ t (Nat.le_refl _)⟩, fun h => h.1⟩
theorem alkB_symm {t u : Vt} {K : Bool} (h : AlkB t u K) (h1 : nkV t) (h2 : nkV u) : AlkB u t K :=
 ⟨fun e => by obtain ⟨a, b, c⟩ := h.1 e; exact ⟨b, a, alk_symm _ t u (Nat.le_refl _) (okA_of t 1024 a h1) (okA_of u 1024 b h2) c⟩, fun ⟨a, b, c⟩ => h.2 ⟨b, a, alk_symm _ u t (Nat.le_refl _) (okA_of u 1024 a h2) (okA_of t 1024 b h1) c⟩⟩
theorem alkB_trans {t u v : Vt} {z : Bool} (h : AlkB t u true) (k : AlkB u v true) (hz : AlkB t v z) (h1 : nkV t) (h2 : nkV u) (h3 : nkV v) : z = true := by
 obtain ⟨a, b, c⟩ := h.1 rfl
 obtain ⟨-, e, f⟩ := k.1 rfl
 exact hz.2 ⟨a, e, alk_trans _ t u v (Nat.le_refl _) (okA_of t 1024 a h1) (okA_of u 1024 b h2) (okA_of v 1024 e h3) c f⟩
theorem alkB_ex (t u : Vt) : ∃ K : Bool, AlkB t u K := by
 by_cases h : wfV t 1024 = true ∧ wfV u 1024 = true ∧ Alk t u
 ·exact ⟨true, ⟨fun _ => h, fun _ => rfl⟩⟩
 ·exact ⟨false, no_iff h⟩
/-- The cases of what is answered. -/
inductive LkC : Bool → Bool → Bool → Bool → Bool → Bool → Prop
 | a (y z fa fb : Bool) : LkC false y z false fa fb
 | b (y z fb : Bool) : LkC false y z true false fb
 | c (z S : Bool) : LkC true false z S true true
 | d (S : Bool) : LkC true true true S true true
theorem lk_cases {t u v : Vt} {x y z S : Bool} (h1 : AlkB t u x) (h2 : AlkB u v y) (h3 : AlkB t v z) (h4 : S = true ↔ t = u) (n1 : nkV t) (n2 : nkV u) (n3 : nkV v) : LkC x y z S (wfV t 1024) (wfV u 1024) := by
 cases x with
 | false =>
  cases S with
  | false => exact .a _ _ _ _
  | true =>
   obtain rfl := h4.1 rfl
   have : wfV t 1024 = false := by
    cases e : wfV t 1024 with
    | false => rfl
    | true => have := h1.2 ((alkB_refl t).1 e); cases this
   rw [this]
   exact .b _ _ _
 | true =>
  obtain ⟨a, b, -⟩ := h1.1 rfl
  rw [a, b]
  cases y with
  | false => exact .c _ _
  | true =>
   obtain rfl := alkB_trans h1 h2 h3 n1 n2 n3
   exact .d _
set_option maxRecDepth 10000 in
set_option maxHeartbeats 16000000 in
theorem treeLikeness_walk (ta : Vt) (va : Value) (tb : Vt) (vb : Value) (tc : Vt) (vc : Value) (w : World) (hTw : TabU w) (ha : ValAt w ta va) (hb : ValAt w tb vb) (hc : ValAt w tc vc) :
  Calls Tryz.prog 4 #[va, vb, vc] w fun e w' => e = .returned (.bool true) ∧ Below w.heap.size w w' := by
 have hT' := hid hTw
 have haw := hid (fun u => awake17_calls u)
 obtain ⟨G0, hG0⟩ : ∃ B, Hid (byd ta = B) := ⟨_, rfl⟩
 obtain ⟨G1, hG1⟩ : ∃ B, Hid (byd tb = B) := ⟨_, rfl⟩
 obtain ⟨G2, hG2⟩ : ∃ B, Hid (byd tc = B) := ⟨_, rfl⟩
 have g0 := hid (fun u hu => beyond_calls ta G0 hG0 va u hu)
 have g1 := hid (fun u hu => beyond_calls tb G1 hG1 vb u hu)
 have g2 := hid (fun u hu => beyond_calls tc G2 hG2 vc u hu)
 obtain ⟨x, hx⟩ := alkB_ex ta tb
 obtain ⟨y, hy⟩ := alkB_ex tb tc
 obtain ⟨z, hz⟩ := alkB_ex ta tc
 obtain ⟨S, hS⟩ : ∃ S : Bool, S = true ↔ ta = tb := by
  by_cases h : ta = tb
  ·exact ⟨true, ⟨fun _ => h, fun _ => rfl⟩⟩
  ·exact ⟨false, no_iff h⟩
 have qx := hid (fun u0 h0 h1 h2 => alikeP_calls ta tb x (hid hx) va vb u0 h0 h1 h2)
 have qy := hid (fun u0 h0 h1 h2 => alikeP_calls tb tc y (hid hy) vb vc u0 h0 h1 h2)
 have qz := hid (fun u0 h0 h1 h2 => alikeP_calls ta tc z (hid hz) va vc u0 h0 h1 h2)
 have qxs := hid (fun (n1 : nkV ta) (n2 : nkV tb) u0 h0 h1 h2 => alikeP_calls tb ta x (hid (alkB_symm hx n1 n2)) vb va u0 h0 h1 h2)
 have qr := hid (fun u0 h0 h1 h2 => alikeP_calls ta ta (wfV ta 1024) (hid (alkB_refl ta)) va va u0 h0 h1 h2)
 have qf := hid (fun u0 h0 h1 => formedP_calls ta va u0 h0 h1)
 have qf2 := hid (fun u0 h0 h1 => formedP_calls tb vb u0 h0 h1)
 have qs := hid (fun u0 h1 h2 => sameP_calls ta tb S (hid hS) va vb u0 h1 h2)
 have qs2 := hid (fun u0 h1 h2 => sameP_calls tb ta S (hid ⟨fun e => (hS.1 e).symm, fun e => hS.2 e.symm⟩) vb va u0 h1 h2)
 have qs3 := hid (fun u0 h1 h2 => sameP_calls ta ta true (hid ⟨fun _ => rfl, fun _ => rfl⟩) va va u0 h1 h2)
 have hcs := hid (fun n1 n2 n3 => lk_cases hx hy hz hS n1 n2 n3)
 have nk : Hid (G0 = false → G1 = false → G2 = false → nkV ta ∧ nkV tb ∧ nkV tc) := fun e0 e1 e2 => ⟨(byd_bnd (hG0.out.trans e0)).2.1, (byd_bnd (hG1.out.trans e1)).2.1, (byd_bnd (hG2.out.trans e2)).2.1⟩
 have ha0 := hid ha
 have ha1 := hid hb
 have ha2 := hid hc
 clear hTw hx hy hz hS hG0 hG1 hG2
 generalize wfV ta 1024 = Fa at *
 generalize wfV tb 1024 = Fb at *
 cases ha with
 | mk k0 b0 r0 t0 ks0 vs0 ko0 kc0 vo0 vc0 X0 hw hzz hk hr hv =>
 clear hw hzz hk hr hv
 cases hb with
 | mk k1 b1 r1 t1 ks1 vs1 ko1 kc1 vo1 vc1 X1 hw hzz hk hr hv =>
 clear hw hzz hk hr hv
 cases hc with
 | mk k2 b2 r2 t2 ks2 vs2 ko2 kc2 vo2 vc2 X2 hw hzz hk hr hv =>
 clear hw hzz hk hr hv
 generalize ks0.length = N0 at *
 generalize vs0.length = M0 at *
 generalize ks1.length = N1 at *
 generalize vs1.length = M1 at *
 generalize ks2.length = N2 at *
 generalize vs2.length = M2 at *
 obtain ⟨p, hp⟩ : ∃ p, Hid (w.heap.size = p) := ⟨_, rfl⟩
 have A0a : Hid (At (((w.alloc (.cells #[.int .i64 k0, .bool b0, .string r0, .string t0, .slice ko0 N0 kc0, .slice vo0 M0 vc0] 25)).alloc (.cells #[.int .i64 k1, .bool b1, .string r1, .string t1, .slice ko1 N1 kc1, .slice vo1 M1 vc1] 25)).alloc (.cells #[.int .i64 k2, .bool b2, .string r2, .string t2, .slice ko2 N2 kc2, .slice vo2 M2 vc2] 25)) p #[.int .i64 k0, .bool b0, .string r0, .string t0, .slice ko0 N0 kc0, .slice vo0 M0 vc0] 25) := by
  have h := ((At.new w #[.int .i64 k0, .bool b0, .string r0, .string t0, .slice ko0 N0 kc0, .slice vo0 M0 vc0] 25).alloc (.cells #[.int .i64 k1, .bool b1, .string r1, .string t1, .slice ko1 N1 kc1, .slice vo1 M1 vc1] 25)).alloc (.cells #[.int .i64 k2, .bool b2, .string r2, .string t2, .slice ko2 N2 kc2, .slice vo2 M2 vc2] 25)
  rw [hp.out] at h
  exact h
 have A1a : Hid (At (((w.alloc (.cells #[.int .i64 k0, .bool b0, .string r0, .string t0, .slice ko0 N0 kc0, .slice vo0 M0 vc0] 25)).alloc (.cells #[.int .i64 k1, .bool b1, .string r1, .string t1, .slice ko1 N1 kc1, .slice vo1 M1 vc1] 25)).alloc (.cells #[.int .i64 k2, .bool b2, .string r2, .string t2, .slice ko2 N2 kc2, .slice vo2 M2 vc2] 25)) (p + 1) #[.int .i64 k1, .bool b1, .string r1, .string t1, .slice ko1 N1 kc1, .slice vo1 M1 vc1] 25) := (At.newAt _ _ (by rw [World.size_alloc, hp.out])).alloc _
 have A2a : Hid (At (((w.alloc (.cells #[.int .i64 k0, .bool b0, .string r0, .string t0, .slice ko0 N0 kc0, .slice vo0 M0 vc0] 25)).alloc (.cells #[.int .i64 k1, .bool b1, .string r1, .string t1, .slice ko1 N1 kc1, .slice vo1 M1 vc1] 25)).alloc (.cells #[.int .i64 k2, .bool b2, .string r2, .string t2, .slice ko2 N2 kc2, .slice vo2 M2 vc2] 25)) (p + 2) #[.int .i64 k2, .bool b2, .string r2, .string t2, .slice ko2 N2 kc2, .slice vo2 M2 vc2] 25) := At.newAt _ _ (by rw [World.size_alloc, World.size_alloc, hp.out])
 have Ba : Hid (Below w.heap.size w (((w.alloc (.cells #[.int .i64 k0, .bool b0, .string r0, .string t0, .slice ko0 N0 kc0, .slice vo0 M0 vc0] 25)).alloc (.cells #[.int .i64 k1, .bool b1, .string r1, .string t1, .slice ko1 N1 kc1, .slice vo1 M1 vc1] 25)).alloc (.cells #[.int .i64 k2, .bool b2, .string r2, .string t2, .slice ko2 N2 kc2, .slice vo2 M2 vc2] 25))) := by
  show Below _ _ _
  repeat (first | with_reducible exact Below.refl _ _ | with_reducible refine Below.setCell ?_ (by first | (simp; done) | (simp; omega)) _ | with_reducible refine below_drewN ?_ _ | with_reducible refine Below.alloc ?_ (by first | (simp; done) | (simp; omega)) _ | with_reducible refine Below.drew ?_)
 go_enter Tryz.func4, Tryz.ntmps4
 go_wp2_with fail
 rw [hp.out]
 generalize ((w.alloc (.cells #[.int .i64 k0, .bool b0, .string r0, .string t0, .slice ko0 N0 kc0, .slice vo0 M0 vc0] 25)).alloc (.cells #[.int .i64 k1, .bool b1, .string r1, .string t1, .slice ko1 N1 kc1, .slice vo1 M1 vc1] 25)).alloc (.cells #[.int .i64 k2, .bool b2, .string r2, .string t2, .slice ko2 N2 kc2, .slice vo2 M2 vc2] 25) = W at A0a A1a A2a Ba ⊢
 refine Calls.mono (haw.out W) ?_
 rintro e w1 ⟨rfl, hb⟩
 have A0b := hid (A0a.out.keptAll hb)
 have A1b := hid (A1a.out.keptAll hb)
 have A2b := hid (A2a.out.keptAll hb)
 have Bb := hid (Ba.out.trans (hb.mono Ba.out.size))
 clear hb A0a A1a A2a Ba
 clear haw
 have d0 := A0b.out.cell 0
 have d1 := A0b.out.cell 1
 have d2 := A0b.out.cell 2
 have d3 := A0b.out.cell 3
 have d4 := A0b.out.cell 4
 have d5 := A0b.out.cell 5
 simp only [List.getElem?_toArray, List.getElem?_cons_zero, List.getElem?_cons_succ] at d0 d1 d2 d3 d4 d5
 go_wp2_with fail
 refine Calls.mono (g0.out _ (ha0.out.kept Bb.out)) ?_
 rintro e w2 ⟨rfl, hb⟩
 clear d0 d1 d2 d3 d4 d5 g0
 have A0c := hid (A0b.out.keptAll hb)
 have A1c := hid (A1b.out.keptAll hb)
 have A2c := hid (A2b.out.keptAll hb)
 have Bc := hid (Bb.out.trans (hb.mono Bb.out.size))
 clear hb A0b A1b A2b Bb
 cases G0 with
 | true =>
  go_wp2
  go_ret
  exact ⟨rfl, Bc.out⟩
 | false =>
 have d0 := A1c.out.cell 0
 have d1 := A1c.out.cell 1
 have d2 := A1c.out.cell 2
 have d3 := A1c.out.cell 3
 have d4 := A1c.out.cell 4
 have d5 := A1c.out.cell 5
 simp only [List.getElem?_toArray, List.getElem?_cons_zero, List.getElem?_cons_succ] at d0 d1 d2 d3 d4 d5
 go_wp2_with fail
 refine Calls.mono (g1.out _ (ha1.out.kept Bc.out)) ?_
 rintro e w3 ⟨rfl, hb⟩
 clear d0 d1 d2 d3 d4 d5 g1
 have A0d := hid (A0c.out.keptAll hb)
 have A1d := hid (A1c.out.keptAll hb)
 have A2d := hid (A2c.out.keptAll hb)
 have Bd := hid (Bc.out.trans (hb.mono Bc.out.size))
 clear hb A0c A1c A2c Bc
 cases G1 with
 | true =>
  go_wp2
  go_ret
  exact ⟨rfl, Bd.out⟩
 | false =>
 have d0 := A2d.out.cell 0
 have d1 := A2d.out.cell 1
 have d2 := A2d.out.cell 2
 have d3 := A2d.out.cell 3
 have d4 := A2d.out.cell 4
 have d5 := A2d.out.cell 5
 simp only [List.getElem?_toArray, List.getElem?_cons_zero, List.getElem?_cons_succ] at d0 d1 d2 d3 d4 d5
 go_wp2_with fail
 refine Calls.mono (g2.out _ (ha2.out.kept Bd.out)) ?_
 rintro e w4 ⟨rfl, hb⟩
 clear d0 d1 d2 d3 d4 d5 g2
 have A0e := hid (A0d.out.keptAll hb)
 have A1e := hid (A1d.out.keptAll hb)
 have A2e := hid (A2d.out.keptAll hb)
 have Be := hid (Bd.out.trans (hb.mono Bd.out.size))
 clear hb A0d A1d A2d Bd
 cases G2 with
 | true =>
  go_wp2
  go_ret
  exact ⟨rfl, Be.out⟩
 | false =>
 obtain ⟨n1, n2, n3⟩ := nk.out (by first | rfl | trivial) (by first | rfl | trivial) (by first | rfl | trivial)
 have hC := hcs.out n1 n2 n3
 have qxs' := hid (qxs.out n1 n2)
 clear nk hcs qxs n1 n2 n3
 go_upto_region 5 with fail
 have hx0 : (w4.drew.cell? ⟨p, 0, none⟩ = some (.int .i64 k0) ∧ w4.drew.cell? ⟨p, 1, none⟩ = some (.bool b0) ∧ w4.drew.cell? ⟨p, 2, none⟩ = some (.string r0) ∧ w4.drew.cell? ⟨p, 3, none⟩ = some (.string t0) ∧ w4.drew.cell? ⟨p, 4, none⟩ = some (.slice ko0 N0 kc0) ∧ w4.drew.cell? ⟨p, 5, none⟩ = some (.slice vo0 M0 vc0)) ∧ (w4.drew.cell? ⟨p + 1, 0, none⟩ = some (.int .i64 k1) ∧ w4.drew.cell? ⟨p + 1, 1, none⟩ = some (.bool b1) ∧ w4.drew.cell? ⟨p + 1, 2, none⟩ = some (.string r1) ∧ w4.drew.cell? ⟨p + 1, 3, none⟩ = some (.string t1) ∧ w4.drew.cell? ⟨p + 1, 4, none⟩ = some (.slice ko1 N1 kc1) ∧ w4.drew.cell? ⟨p + 1, 5, none⟩ = some (.slice vo1 M1 vc1)) ∧ (w4.drew.cell? ⟨p + 2, 0, none⟩ = some (.int .i64 k2) ∧ w4.drew.cell? ⟨p + 2, 1, none⟩ = some (.bool b2) ∧ w4.drew.cell? ⟨p + 2, 2, none⟩ = some (.string r2) ∧ w4.drew.cell? ⟨p + 2, 3, none⟩ = some (.string t2) ∧ w4.drew.cell? ⟨p + 2, 4, none⟩ = some (.slice ko2 N2 kc2) ∧ w4.drew.cell? ⟨p + 2, 5, none⟩ = some (.slice vo2 M2 vc2)) := ⟨⟨A0e.out.cell 0, A0e.out.cell 1, A0e.out.cell 2, A0e.out.cell 3, A0e.out.cell 4, A0e.out.cell 5⟩, ⟨A1e.out.cell 0, A1e.out.cell 1, A1e.out.cell 2, A1e.out.cell 3, A1e.out.cell 4, A1e.out.cell 5⟩, ⟨A2e.out.cell 0, A2e.out.cell 1, A2e.out.cell 2, A2e.out.cell 3, A2e.out.cell 4, A2e.out.cell 5⟩⟩
 have q0 := show Below w4.heap.size w4 w4.drew from (Below.refl _ _).drew
 have A0f := hid (A0e.out.keptAll q0)
 have A1f := hid (A1e.out.keptAll q0)
 have A2f := hid (A2e.out.keptAll q0)
 have Bf := hid (Be.out.trans (q0.mono Be.out.size))
 clear q0 A0e A1e A2e Be
 refine wp_region_held_drew (S := fun w' => (w'.cell? ⟨p, 0, none⟩ = some (.int .i64 k0) ∧ w'.cell? ⟨p, 1, none⟩ = some (.bool b0) ∧ w'.cell? ⟨p, 2, none⟩ = some (.string r0) ∧ w'.cell? ⟨p, 3, none⟩ = some (.string t0) ∧ w'.cell? ⟨p, 4, none⟩ = some (.slice ko0 N0 kc0) ∧ w'.cell? ⟨p, 5, none⟩ = some (.slice vo0 M0 vc0)) ∧ (w'.cell? ⟨p + 1, 0, none⟩ = some (.int .i64 k1) ∧ w'.cell? ⟨p + 1, 1, none⟩ = some (.bool b1) ∧ w'.cell? ⟨p + 1, 2, none⟩ = some (.string r1) ∧ w'.cell? ⟨p + 1, 3, none⟩ = some (.string t1) ∧ w'.cell? ⟨p + 1, 4, none⟩ = some (.slice ko1 N1 kc1) ∧ w'.cell? ⟨p + 1, 5, none⟩ = some (.slice vo1 M1 vc1)) ∧ (w'.cell? ⟨p + 2, 0, none⟩ = some (.int .i64 k2) ∧ w'.cell? ⟨p + 2, 1, none⟩ = some (.bool b2) ∧ w'.cell? ⟨p + 2, 2, none⟩ = some (.string r2) ∧ w'.cell? ⟨p + 2, 3, none⟩ = some (.string t2) ∧ w'.cell? ⟨p + 2, 4, none⟩ = some (.slice ko2 N2 kc2) ∧ w'.cell? ⟨p + 2, 5, none⟩ = some (.slice vo2 M2 vc2))) (by kernel_rfl) hx0 (fun hHeld => ?_)
 clear hHeld
 generalize w4.drew = vf at *
 (refine' wpAnyH_take (i := 0) rfl (by kernel_rfl) (by kernel_rfl) (by kernel_rfl) (fun _ _ _ h => h) (Or.inl ⟨by rfl, ?_⟩) (by assumption) ?_; rotate_left; (· (intro wq hq; (try dsimp only at hq); go_simp; first | done | with_reducible rfl)); simp only [Act.put, List.getElem_toArray, List.getElem_cons_zero, List.setIfInBounds_toArray, List.set_cons_zero, List.set_cons_succ])
 (refine' wpAnyH_take (i := 1) rfl (by kernel_rfl) (by kernel_rfl) (by kernel_rfl) (fun _ _ _ h => h) (Or.inl ⟨by rfl, ?_⟩) (by assumption) ?_; rotate_left; (· (intro wq hq; (try dsimp only at hq); go_simp; first | done | with_reducible rfl)); simp only [Act.put, List.getElem_toArray, List.getElem_cons_zero, List.getElem_cons_succ, List.setIfInBounds_toArray, List.set_cons_zero, List.set_cons_succ])
 (refine' wpAnyH_take (i := 3) rfl (by kernel_rfl) (by kernel_rfl) (by kernel_rfl) (fun _ _ _ h => h) (Or.inl ⟨by rfl, ?_⟩) (by assumption) ?_; rotate_left; (· (intro wq hq; (try dsimp only at hq); go_simp; first | done | with_reducible rfl)); simp only [Act.put, List.getElem_toArray, List.getElem_cons_zero, List.getElem_cons_succ, List.setIfInBounds_toArray, List.set_cons_zero, List.set_cons_succ])
 (refine' wpAnyH_take (i := 4) rfl (by kernel_rfl) (by kernel_rfl) (by kernel_rfl) (fun _ _ _ h => h) (Or.inl ⟨by rfl, ?_⟩) (by assumption) ?_; rotate_left; (· (intro wq hq; (try dsimp only at hq); go_simp; first | done | with_reducible rfl)); simp only [Act.put, List.getElem_toArray, List.getElem_cons_zero, List.getElem_cons_succ, List.setIfInBounds_toArray, List.set_cons_zero, List.set_cons_succ])
 (refine' wpAnyH_take (i := 6) rfl (by kernel_rfl) (by kernel_rfl) (by kernel_rfl) (fun _ _ _ h => h) (Or.inl ⟨by rfl, ?_⟩) (by assumption) ?_; rotate_left; (· (intro wq hq; (try dsimp only at hq); go_simp; first | done | with_reducible rfl)); simp only [Act.put, List.getElem_toArray, List.getElem_cons_zero, List.getElem_cons_succ, List.setIfInBounds_toArray, List.set_cons_zero, List.set_cons_succ])
 (refine' wpAnyH_take (i := 7) rfl (by kernel_rfl) (by kernel_rfl) (by kernel_rfl) (fun _ _ _ h => h) (Or.inl ⟨by rfl, ?_⟩) (by assumption) ?_; rotate_left; (· (intro wq hq; (try dsimp only at hq); go_simp; first | done | with_reducible rfl)); simp only [Act.put, List.getElem_toArray, List.getElem_cons_zero, List.getElem_cons_succ, List.setIfInBounds_toArray, List.set_cons_zero, List.set_cons_succ])
 refine wpAnyH_ready (rs := [2]) (by kernel_rfl) (by simp) ?_
 refine AllReadyH.cons rfl (fun K hK => ?_) ?_
 ·rw [if_pos (by rfl)]
  go_simp
  refine Calls.mono (qx.out vf (hT'.out.below Bf.out) (ha0.out.kept Bf.out) (ha1.out.kept Bf.out)) ?_
  rintro e vg ⟨rfl, hb⟩
  have A0g := hid (A0f.out.keptAll hb)
  have A1g := hid (A1f.out.keptAll hb)
  have A2g := hid (A2f.out.keptAll hb)
  have Bg := hid (Bf.out.trans (hb.mono Bf.out.size))
  clear hb A0f A1f A2f Bf
  refine hK.out _ _ ⟨⟨A0g.out.cell 0, A0g.out.cell 1, A0g.out.cell 2, A0g.out.cell 3, A0g.out.cell 4, A0g.out.cell 5⟩, ⟨A1g.out.cell 0, A1g.out.cell 1, A1g.out.cell 2, A1g.out.cell 3, A1g.out.cell 4, A1g.out.cell 5⟩, ⟨A2g.out.cell 0, A2g.out.cell 1, A2g.out.cell 2, A2g.out.cell 3, A2g.out.cell 4, A2g.out.cell 5⟩⟩ (fun _ => ?_)
  clear hK K
  clear qx
  refine wpAnyH_ready (rs := [5]) (by kernel_rfl) (by simp) ?_
  refine AllReadyH.cons rfl (fun K hK => ?_) ?_
  ·rw [if_pos (by rfl)]
   go_simp
   refine Calls.mono (qy.out vg (hT'.out.below Bg.out) (ha1.out.kept Bg.out) (ha2.out.kept Bg.out)) ?_
   rintro e vh ⟨rfl, hb⟩
   have A0h := hid (A0g.out.keptAll hb)
   have A1h := hid (A1g.out.keptAll hb)
   have A2h := hid (A2g.out.keptAll hb)
   have Bh := hid (Bg.out.trans (hb.mono Bg.out.size))
   clear hb A0g A1g A2g Bg
   refine hK.out _ _ ⟨⟨A0h.out.cell 0, A0h.out.cell 1, A0h.out.cell 2, A0h.out.cell 3, A0h.out.cell 4, A0h.out.cell 5⟩, ⟨A1h.out.cell 0, A1h.out.cell 1, A1h.out.cell 2, A1h.out.cell 3, A1h.out.cell 4, A1h.out.cell 5⟩, ⟨A2h.out.cell 0, A2h.out.cell 1, A2h.out.cell 2, A2h.out.cell 3, A2h.out.cell 4, A2h.out.cell 5⟩⟩ (fun _ => ?_)
   clear hK K
   clear qy
   refine wpAnyH_ready (rs := [8]) (by kernel_rfl) (by simp) ?_
   refine AllReadyH.cons rfl (fun K hK => ?_) ?_
   ·rw [if_pos (by rfl)]
    go_simp
    refine Calls.mono (qz.out vh (hT'.out.below Bh.out) (ha0.out.kept Bh.out) (ha2.out.kept Bh.out)) ?_
    rintro e vi ⟨rfl, hb⟩
    have A0i := hid (A0h.out.keptAll hb)
    have A1i := hid (A1h.out.keptAll hb)
    have A2i := hid (A2h.out.keptAll hb)
    have Bi := hid (Bh.out.trans (hb.mono Bh.out.size))
    clear hb A0h A1h A2h Bh
    refine hK.out _ _ ⟨⟨A0i.out.cell 0, A0i.out.cell 1, A0i.out.cell 2, A0i.out.cell 3, A0i.out.cell 4, A0i.out.cell 5⟩, ⟨A1i.out.cell 0, A1i.out.cell 1, A1i.out.cell 2, A1i.out.cell 3, A1i.out.cell 4, A1i.out.cell 5⟩, ⟨A2i.out.cell 0, A2i.out.cell 1, A2i.out.cell 2, A2i.out.cell 3, A2i.out.cell 4, A2i.out.cell 5⟩⟩ (fun _ => ?_)
    clear hK K
    clear qz
    (refine' wpAnyH_take (i := 9) rfl (by kernel_rfl) (by kernel_rfl) (by kernel_rfl) (fun _ _ _ h => h) (Or.inl ⟨by rfl, ?_⟩) (by assumption) ?_; rotate_left; (· (intro wq hq; (try dsimp only at hq); go_simp; first | done | with_reducible rfl)); simp only [Act.put, List.getElem_toArray, List.getElem_cons_zero, List.getElem_cons_succ, List.setIfInBounds_toArray, List.set_cons_zero, List.set_cons_succ])
    (refine' wpAnyH_take (i := 10) rfl (by kernel_rfl) (by kernel_rfl) (by kernel_rfl) (fun _ _ _ h => h) (Or.inl ⟨by rfl, ?_⟩) (by assumption) ?_; rotate_left; (· (intro wq hq; (try dsimp only at hq); go_simp; first | done | with_reducible rfl)); simp only [Act.put, List.getElem_toArray, List.getElem_cons_zero, List.getElem_cons_succ, List.setIfInBounds_toArray, List.set_cons_zero, List.set_cons_succ])
    (refine' wpAnyH_take (i := 11) rfl (by kernel_rfl) (by kernel_rfl) (by kernel_rfl) (fun _ _ _ h => h) (Or.inl ⟨by rfl, ?_⟩) (by assumption) ?_; rotate_left; (· (intro wq hq; (try dsimp only at hq); go_simp; first | done | with_reducible rfl)); simp only [Act.put, List.getElem_toArray, List.getElem_cons_zero, List.getElem_cons_succ, List.setIfInBounds_toArray, List.set_cons_zero, List.set_cons_succ])
    refine wpAnyH_done (by kernel_rfl) ?_ _
    cases hC with
    | a =>
     go_upto_region 6 with fail
     have hx0 : (vi.drew.cell? ⟨p, 0, none⟩ = some (.int .i64 k0) ∧ vi.drew.cell? ⟨p, 1, none⟩ = some (.bool b0) ∧ vi.drew.cell? ⟨p, 2, none⟩ = some (.string r0) ∧ vi.drew.cell? ⟨p, 3, none⟩ = some (.string t0) ∧ vi.drew.cell? ⟨p, 4, none⟩ = some (.slice ko0 N0 kc0) ∧ vi.drew.cell? ⟨p, 5, none⟩ = some (.slice vo0 M0 vc0)) ∧ (vi.drew.cell? ⟨p + 1, 0, none⟩ = some (.int .i64 k1) ∧ vi.drew.cell? ⟨p + 1, 1, none⟩ = some (.bool b1) ∧ vi.drew.cell? ⟨p + 1, 2, none⟩ = some (.string r1) ∧ vi.drew.cell? ⟨p + 1, 3, none⟩ = some (.string t1) ∧ vi.drew.cell? ⟨p + 1, 4, none⟩ = some (.slice ko1 N1 kc1) ∧ vi.drew.cell? ⟨p + 1, 5, none⟩ = some (.slice vo1 M1 vc1)) ∧ (vi.drew.cell? ⟨p + 2, 0, none⟩ = some (.int .i64 k2) ∧ vi.drew.cell? ⟨p + 2, 1, none⟩ = some (.bool b2) ∧ vi.drew.cell? ⟨p + 2, 2, none⟩ = some (.string r2) ∧ vi.drew.cell? ⟨p + 2, 3, none⟩ = some (.string t2) ∧ vi.drew.cell? ⟨p + 2, 4, none⟩ = some (.slice ko2 N2 kc2) ∧ vi.drew.cell? ⟨p + 2, 5, none⟩ = some (.slice vo2 M2 vc2)) := ⟨⟨A0i.out.cell 0, A0i.out.cell 1, A0i.out.cell 2, A0i.out.cell 3, A0i.out.cell 4, A0i.out.cell 5⟩, ⟨A1i.out.cell 0, A1i.out.cell 1, A1i.out.cell 2, A1i.out.cell 3, A1i.out.cell 4, A1i.out.cell 5⟩, ⟨A2i.out.cell 0, A2i.out.cell 1, A2i.out.cell 2, A2i.out.cell 3, A2i.out.cell 4, A2i.out.cell 5⟩⟩
     have q0 := show Below vi.heap.size vi vi.drew from (Below.refl _ _).drew
     have A0j := hid (A0i.out.keptAll q0)
     have A1j := hid (A1i.out.keptAll q0)
     have A2j := hid (A2i.out.keptAll q0)
     have Bj := hid (Bi.out.trans (q0.mono Bi.out.size))
     clear q0 A0i A1i A2i Bi
     refine wp_region_held_drew (S := fun w' => (w'.cell? ⟨p, 0, none⟩ = some (.int .i64 k0) ∧ w'.cell? ⟨p, 1, none⟩ = some (.bool b0) ∧ w'.cell? ⟨p, 2, none⟩ = some (.string r0) ∧ w'.cell? ⟨p, 3, none⟩ = some (.string t0) ∧ w'.cell? ⟨p, 4, none⟩ = some (.slice ko0 N0 kc0) ∧ w'.cell? ⟨p, 5, none⟩ = some (.slice vo0 M0 vc0)) ∧ (w'.cell? ⟨p + 1, 0, none⟩ = some (.int .i64 k1) ∧ w'.cell? ⟨p + 1, 1, none⟩ = some (.bool b1) ∧ w'.cell? ⟨p + 1, 2, none⟩ = some (.string r1) ∧ w'.cell? ⟨p + 1, 3, none⟩ = some (.string t1) ∧ w'.cell? ⟨p + 1, 4, none⟩ = some (.slice ko1 N1 kc1) ∧ w'.cell? ⟨p + 1, 5, none⟩ = some (.slice vo1 M1 vc1)) ∧ (w'.cell? ⟨p + 2, 0, none⟩ = some (.int .i64 k2) ∧ w'.cell? ⟨p + 2, 1, none⟩ = some (.bool b2) ∧ w'.cell? ⟨p + 2, 2, none⟩ = some (.string r2) ∧ w'.cell? ⟨p + 2, 3, none⟩ = some (.string t2) ∧ w'.cell? ⟨p + 2, 4, none⟩ = some (.slice ko2 N2 kc2) ∧ w'.cell? ⟨p + 2, 5, none⟩ = some (.slice vo2 M2 vc2))) (by kernel_rfl) hx0 (fun hHeld => ?_)
     clear hHeld
     generalize vi.drew = vj at *
     (refine' wpAnyH_take (i := 0) rfl (by kernel_rfl) (by kernel_rfl) (by kernel_rfl) (fun _ _ _ h => h) (Or.inl ⟨by rfl, ?_⟩) (by assumption) ?_; rotate_left; (· (intro wq hq; (try dsimp only at hq); go_simp; first | done | with_reducible rfl)); simp only [Act.put, List.getElem_toArray, List.getElem_cons_zero, List.setIfInBounds_toArray, List.set_cons_zero, List.set_cons_succ])
     (refine' wpAnyH_take (i := 1) rfl (by kernel_rfl) (by kernel_rfl) (by kernel_rfl) (fun _ _ _ h => h) (Or.inl ⟨by rfl, ?_⟩) (by assumption) ?_; rotate_left; (· (intro wq hq; (try dsimp only at hq); go_simp; first | done | with_reducible rfl)); simp only [Act.put, List.getElem_toArray, List.getElem_cons_zero, List.getElem_cons_succ, List.setIfInBounds_toArray, List.set_cons_zero, List.set_cons_succ])
     (refine' wpAnyH_take (i := 2) rfl (by kernel_rfl) (by kernel_rfl) (by kernel_rfl) (fun _ _ _ h => h) (Or.inl ⟨by rfl, ?_⟩) (by assumption) ?_; rotate_left; (· (intro wq hq; (try dsimp only at hq); go_simp; first | done | with_reducible rfl)); simp only [Act.put, List.getElem_toArray, List.getElem_cons_zero, List.getElem_cons_succ, List.setIfInBounds_toArray, List.set_cons_zero, List.set_cons_succ])
     refine wpAnyH_ready (rs := [3]) (by kernel_rfl) (by simp) ?_
     refine AllReadyH.cons rfl (fun K hK => ?_) ?_
     ·rw [if_pos (by rfl)]
      go_simp
      refine Calls.mono (qxs'.out vj (hT'.out.below Bj.out) (ha1.out.kept Bj.out) (ha0.out.kept Bj.out)) ?_
      rintro e vk ⟨rfl, hb⟩
      have A0k := hid (A0j.out.keptAll hb)
      have A1k := hid (A1j.out.keptAll hb)
      have A2k := hid (A2j.out.keptAll hb)
      have Bk := hid (Bj.out.trans (hb.mono Bj.out.size))
      clear hb A0j A1j A2j Bj
      refine hK.out _ _ ⟨⟨A0k.out.cell 0, A0k.out.cell 1, A0k.out.cell 2, A0k.out.cell 3, A0k.out.cell 4, A0k.out.cell 5⟩, ⟨A1k.out.cell 0, A1k.out.cell 1, A1k.out.cell 2, A1k.out.cell 3, A1k.out.cell 4, A1k.out.cell 5⟩, ⟨A2k.out.cell 0, A2k.out.cell 1, A2k.out.cell 2, A2k.out.cell 3, A2k.out.cell 4, A2k.out.cell 5⟩⟩ (fun _ => ?_)
      clear hK K
      (refine' wpAnyH_take (i := 4) rfl (by kernel_rfl) (by kernel_rfl) (by kernel_rfl) (fun _ _ _ h => h) (Or.inl ⟨by rfl, ?_⟩) (by assumption) ?_; rotate_left; (· (intro wq hq; (try dsimp only at hq); go_simp; first | done | with_reducible rfl)); simp only [Act.put, List.getElem_toArray, List.getElem_cons_zero, List.getElem_cons_succ, List.setIfInBounds_toArray, List.set_cons_zero, List.set_cons_succ])
      (refine' wpAnyH_take (i := 5) rfl (by kernel_rfl) (by kernel_rfl) (by kernel_rfl) (fun _ _ _ h => h) (Or.inl ⟨by rfl, ?_⟩) (by assumption) ?_; rotate_left; (· (intro wq hq; (try dsimp only at hq); go_simp; first | done | with_reducible rfl)); simp only [Act.put, List.getElem_toArray, List.getElem_cons_zero, List.getElem_cons_succ, List.setIfInBounds_toArray, List.set_cons_zero, List.set_cons_succ])
      (refine' wpAnyH_take (i := 6) rfl (by kernel_rfl) (by kernel_rfl) (by kernel_rfl) (fun _ _ _ h => h) (Or.inl ⟨by rfl, ?_⟩) (by assumption) ?_; rotate_left; (· (intro wq hq; (try dsimp only at hq); go_simp; first | done | with_reducible rfl)); simp only [Act.put, List.getElem_toArray, List.getElem_cons_zero, List.getElem_cons_succ, List.setIfInBounds_toArray, List.set_cons_zero, List.set_cons_succ])
      (refine' wpAnyH_take (i := 7) rfl (by kernel_rfl) (by kernel_rfl) (by kernel_rfl) (fun _ _ _ h => h) (Or.inl ⟨by rfl, ?_⟩) (by assumption) ?_; rotate_left; (· (intro wq hq; (try dsimp only at hq); go_simp; first | done | with_reducible rfl)); simp only [Act.put, List.getElem_toArray, List.getElem_cons_zero, List.getElem_cons_succ, List.setIfInBounds_toArray, List.set_cons_zero, List.set_cons_succ])
      (refine wpAnyH_take (i := 8) (v := undef) rfl (by kernel_rfl) (by kernel_rfl) (by kernel_rfl) (fun _ _ _ h => h) (Or.inr ⟨by rfl, rfl⟩) (by assumption) ?_; simp only [Act.put, List.getElem_toArray, List.getElem_cons_zero, List.getElem_cons_succ, List.setIfInBounds_toArray, List.set_cons_zero, List.set_cons_succ])
      (refine' wpAnyH_take (i := 9) rfl (by kernel_rfl) (by kernel_rfl) (by kernel_rfl) (fun _ _ _ h => h) (Or.inl ⟨by rfl, ?_⟩) (by assumption) ?_; rotate_left; (· (intro wq hq; (try dsimp only at hq); go_simp; first | done | with_reducible rfl)); simp only [Act.put, List.getElem_toArray, List.getElem_cons_zero, List.getElem_cons_succ, List.setIfInBounds_toArray, List.set_cons_zero, List.set_cons_succ])
      (refine' wpAnyH_take (i := 10) rfl (by kernel_rfl) (by kernel_rfl) (by kernel_rfl) (fun _ _ _ h => h) (Or.inl ⟨by rfl, ?_⟩) (by assumption) ?_; rotate_left; (· (intro wq hq; (try dsimp only at hq); go_simp; first | done | with_reducible rfl)); simp only [Act.put, List.getElem_toArray, List.getElem_cons_zero, List.getElem_cons_succ, List.setIfInBounds_toArray, List.set_cons_zero, List.set_cons_succ])
      (refine wpAnyH_take (i := 11) (v := undef) rfl (by kernel_rfl) (by kernel_rfl) (by kernel_rfl) (fun _ _ _ h => h) (Or.inr ⟨by rfl, rfl⟩) (by assumption) ?_; simp only [Act.put, List.getElem_toArray, List.getElem_cons_zero, List.getElem_cons_succ, List.setIfInBounds_toArray, List.set_cons_zero, List.set_cons_succ])
      (refine wpAnyH_take (i := 12) (v := undef) rfl (by kernel_rfl) (by kernel_rfl) (by kernel_rfl) (fun _ _ _ h => h) (Or.inr ⟨by rfl, rfl⟩) (by assumption) ?_; simp only [Act.put, List.getElem_toArray, List.getElem_cons_zero, List.getElem_cons_succ, List.setIfInBounds_toArray, List.set_cons_zero, List.set_cons_succ])
      (refine' wpAnyH_take (i := 13) rfl (by kernel_rfl) (by kernel_rfl) (by kernel_rfl) (fun _ _ _ h => h) (Or.inl ⟨by rfl, ?_⟩) (by assumption) ?_; rotate_left; (· (intro wq hq; (try dsimp only at hq); go_simp; first | done | with_reducible rfl)); simp only [Act.put, List.getElem_toArray, List.getElem_cons_zero, List.getElem_cons_succ, List.setIfInBounds_toArray, List.set_cons_zero, List.set_cons_succ])
      (refine' wpAnyH_take (i := 14) rfl (by kernel_rfl) (by kernel_rfl) (by kernel_rfl) (fun _ _ _ h => h) (Or.inl ⟨by rfl, ?_⟩) (by assumption) ?_; rotate_left; (· (intro wq hq; (try dsimp only at hq); go_simp; first | done | with_reducible rfl)); simp only [Act.put, List.getElem_toArray, List.getElem_cons_zero, List.getElem_cons_succ, List.setIfInBounds_toArray, List.set_cons_zero, List.set_cons_succ])
      (refine' wpAnyH_take (i := 15) rfl (by kernel_rfl) (by kernel_rfl) (by kernel_rfl) (fun _ _ _ h => h) (Or.inl ⟨by rfl, ?_⟩) (by assumption) ?_; rotate_left; (· (intro wq hq; (try dsimp only at hq); go_simp; first | done | with_reducible rfl)); simp only [Act.put, List.getElem_toArray, List.getElem_cons_zero, List.getElem_cons_succ, List.setIfInBounds_toArray, List.set_cons_zero, List.set_cons_succ])
      (refine' wpAnyH_take (i := 16) rfl (by kernel_rfl) (by kernel_rfl) (by kernel_rfl) (fun _ _ _ h => h) (Or.inl ⟨by rfl, ?_⟩) (by assumption) ?_; rotate_left; (· (intro wq hq; (try dsimp only at hq); go_simp; first | done | with_reducible rfl)); simp only [Act.put, List.getElem_toArray, List.getElem_cons_zero, List.getElem_cons_succ, List.setIfInBounds_toArray, List.set_cons_zero, List.set_cons_succ])
      (refine' wpAnyH_take (i := 17) rfl (by kernel_rfl) (by kernel_rfl) (by kernel_rfl) (fun _ _ _ h => h) (Or.inl ⟨by rfl, ?_⟩) (by assumption) ?_; rotate_left; (· (intro wq hq; (try dsimp only at hq); go_simp; first | done | with_reducible rfl)); simp only [Act.put, List.getElem_toArray, List.getElem_cons_zero, List.getElem_cons_succ, List.setIfInBounds_toArray, List.set_cons_zero, List.set_cons_succ])
      (refine' wpAnyH_take (i := 19) rfl (by kernel_rfl) (by kernel_rfl) (by kernel_rfl) (fun _ _ _ h => h) (Or.inl ⟨by rfl, ?_⟩) (by assumption) ?_; rotate_left; (· (intro wq hq; (try dsimp only at hq); go_simp; first | done | with_reducible rfl)); simp only [Act.put, List.getElem_toArray, List.getElem_cons_zero, List.getElem_cons_succ, List.setIfInBounds_toArray, List.set_cons_zero, List.set_cons_succ])
      refine wpAnyH_ready (rs := [18]) (by kernel_rfl) (by simp) ?_
      refine AllReadyH.cons rfl (fun K hK => ?_) ?_
      ·rw [if_pos (by rfl)]
       go_simp
       refine Calls.mono (qr.out vk (hT'.out.below Bk.out) (ha0.out.kept Bk.out) (ha0.out.kept Bk.out)) ?_
       rintro e vl ⟨rfl, hb⟩
       have A0l := hid (A0k.out.keptAll hb)
       have A1l := hid (A1k.out.keptAll hb)
       have A2l := hid (A2k.out.keptAll hb)
       have Bl := hid (Bk.out.trans (hb.mono Bk.out.size))
       clear hb A0k A1k A2k Bk
       refine hK.out _ _ ⟨⟨A0l.out.cell 0, A0l.out.cell 1, A0l.out.cell 2, A0l.out.cell 3, A0l.out.cell 4, A0l.out.cell 5⟩, ⟨A1l.out.cell 0, A1l.out.cell 1, A1l.out.cell 2, A1l.out.cell 3, A1l.out.cell 4, A1l.out.cell 5⟩, ⟨A2l.out.cell 0, A2l.out.cell 1, A2l.out.cell 2, A2l.out.cell 3, A2l.out.cell 4, A2l.out.cell 5⟩⟩ (fun _ => ?_)
       clear hK K
       refine wpAnyH_ready (rs := [20]) (by kernel_rfl) (by simp) ?_
       refine AllReadyH.cons rfl (fun K hK => ?_) ?_
       ·rw [if_pos (by rfl)]
        go_simp
        refine Calls.mono (qf.out vl (hT'.out.below Bl.out) (ha0.out.kept Bl.out)) ?_
        rintro e vm ⟨rfl, hb⟩
        have A0m := hid (A0l.out.keptAll hb)
        have A1m := hid (A1l.out.keptAll hb)
        have A2m := hid (A2l.out.keptAll hb)
        have Bm := hid (Bl.out.trans (hb.mono Bl.out.size))
        clear hb A0l A1l A2l Bl
        refine hK.out _ _ ⟨⟨A0m.out.cell 0, A0m.out.cell 1, A0m.out.cell 2, A0m.out.cell 3, A0m.out.cell 4, A0m.out.cell 5⟩, ⟨A1m.out.cell 0, A1m.out.cell 1, A1m.out.cell 2, A1m.out.cell 3, A1m.out.cell 4, A1m.out.cell 5⟩, ⟨A2m.out.cell 0, A2m.out.cell 1, A2m.out.cell 2, A2m.out.cell 3, A2m.out.cell 4, A2m.out.cell 5⟩⟩ (fun _ => ?_)
        clear hK K
        (refine' wpAnyH_take (i := 21) rfl (by kernel_rfl) (by kernel_rfl) (by kernel_rfl) (fun _ _ _ h => h) (Or.inl ⟨by rfl, ?_⟩) (by assumption) ?_; rotate_left; (· (intro wq hq; (try dsimp only at hq); go_simp; first | done | with_reducible rfl)); simp only [Act.put, List.getElem_toArray, List.getElem_cons_zero, List.getElem_cons_succ, List.setIfInBounds_toArray, List.set_cons_zero, List.set_cons_succ])
        (refine' wpAnyH_take (i := 22) rfl (by kernel_rfl) (by kernel_rfl) (by kernel_rfl) (fun _ _ _ h => h) (Or.inl ⟨by rfl, ?_⟩) (by assumption) ?_; rotate_left; (· (intro wq hq; (try dsimp only at hq); go_simp; first | done | with_reducible rfl)); simp only [Act.put, List.getElem_toArray, List.getElem_cons_zero, List.getElem_cons_succ, List.setIfInBounds_toArray, List.set_cons_zero, List.set_cons_succ])
        (refine' wpAnyH_take (i := 23) rfl (by kernel_rfl) (by kernel_rfl) (by kernel_rfl) (fun _ _ _ h => h) (Or.inl ⟨by rfl, ?_⟩) (by assumption) ?_; rotate_left; (· (intro wq hq; (try dsimp only at hq); go_simp; first | done | with_reducible rfl)); simp only [Act.put, List.getElem_toArray, List.getElem_cons_zero, List.getElem_cons_succ, List.setIfInBounds_toArray, List.set_cons_zero, List.set_cons_succ])
        (refine' wpAnyH_take (i := 24) rfl (by kernel_rfl) (by kernel_rfl) (by kernel_rfl) (fun _ _ _ h => h) (Or.inl ⟨by rfl, ?_⟩) (by assumption) ?_; rotate_left; (· (intro wq hq; (try dsimp only at hq); go_simp; first | done | with_reducible rfl)); simp only [Act.put, List.getElem_toArray, List.getElem_cons_zero, List.getElem_cons_succ, List.setIfInBounds_toArray, List.set_cons_zero, List.set_cons_succ])
        (refine' wpAnyH_take (i := 25) rfl (by kernel_rfl) (by kernel_rfl) (by kernel_rfl) (fun _ _ _ h => h) (Or.inl ⟨by rfl, ?_⟩) (by assumption) ?_; rotate_left; (· (intro wq hq; (try dsimp only at hq); go_simp; first | done | with_reducible rfl)); simp only [Act.put, List.getElem_toArray, List.getElem_cons_zero, List.getElem_cons_succ, List.setIfInBounds_toArray, List.set_cons_zero, List.set_cons_succ])
        (refine' wpAnyH_take (i := 27) rfl (by kernel_rfl) (by kernel_rfl) (by kernel_rfl) (fun _ _ _ h => h) (Or.inl ⟨by rfl, ?_⟩) (by assumption) ?_; rotate_left; (· (intro wq hq; (try dsimp only at hq); go_simp; first | done | with_reducible rfl)); simp only [Act.put, List.getElem_toArray, List.getElem_cons_zero, List.getElem_cons_succ, List.setIfInBounds_toArray, List.set_cons_zero, List.set_cons_succ])
        (refine' wpAnyH_take (i := 28) rfl (by kernel_rfl) (by kernel_rfl) (by kernel_rfl) (fun _ _ _ h => h) (Or.inl ⟨by rfl, ?_⟩) (by assumption) ?_; rotate_left; (· (intro wq hq; (try dsimp only at hq); go_simp; first | done | with_reducible rfl)); simp only [Act.put, List.getElem_toArray, List.getElem_cons_zero, List.getElem_cons_succ, List.setIfInBounds_toArray, List.set_cons_zero, List.set_cons_succ])
        refine wpAnyH_ready (rs := [26]) (by kernel_rfl) (by simp) ?_
        refine AllReadyH.cons rfl (fun K hK => ?_) ?_
        ·rw [if_pos (by rfl)]
         go_simp
         refine Calls.mono (qs.out vm (ha0.out.kept Bm.out) (ha1.out.kept Bm.out)) ?_
         rintro e vn ⟨rfl, hb⟩
         have A0n := hid (A0m.out.keptAll hb)
         have A1n := hid (A1m.out.keptAll hb)
         have A2n := hid (A2m.out.keptAll hb)
         have Bn := hid (Bm.out.trans (hb.mono Bm.out.size))
         clear hb A0m A1m A2m Bm
         refine hK.out _ _ ⟨⟨A0n.out.cell 0, A0n.out.cell 1, A0n.out.cell 2, A0n.out.cell 3, A0n.out.cell 4, A0n.out.cell 5⟩, ⟨A1n.out.cell 0, A1n.out.cell 1, A1n.out.cell 2, A1n.out.cell 3, A1n.out.cell 4, A1n.out.cell 5⟩, ⟨A2n.out.cell 0, A2n.out.cell 1, A2n.out.cell 2, A2n.out.cell 3, A2n.out.cell 4, A2n.out.cell 5⟩⟩ (fun _ => ?_)
         clear hK K
         refine wpAnyH_ready (rs := [29]) (by kernel_rfl) (by simp) ?_
         refine AllReadyH.cons rfl (fun K hK => ?_) ?_
         ·rw [if_pos (by rfl)]
          go_simp
          refine Calls.mono (qs2.out vn (ha1.out.kept Bn.out) (ha0.out.kept Bn.out)) ?_
          rintro e vo ⟨rfl, hb⟩
          have A0o := hid (A0n.out.keptAll hb)
          have A1o := hid (A1n.out.keptAll hb)
          have A2o := hid (A2n.out.keptAll hb)
          have Bo := hid (Bn.out.trans (hb.mono Bn.out.size))
          clear hb A0n A1n A2n Bn
          refine hK.out _ _ ⟨⟨A0o.out.cell 0, A0o.out.cell 1, A0o.out.cell 2, A0o.out.cell 3, A0o.out.cell 4, A0o.out.cell 5⟩, ⟨A1o.out.cell 0, A1o.out.cell 1, A1o.out.cell 2, A1o.out.cell 3, A1o.out.cell 4, A1o.out.cell 5⟩, ⟨A2o.out.cell 0, A2o.out.cell 1, A2o.out.cell 2, A2o.out.cell 3, A2o.out.cell 4, A2o.out.cell 5⟩⟩ (fun _ => ?_)
          clear hK K
          (refine' wpAnyH_take (i := 30) rfl (by kernel_rfl) (by kernel_rfl) (by kernel_rfl) (fun _ _ _ h => h) (Or.inl ⟨by rfl, ?_⟩) (by assumption) ?_; rotate_left; (· (intro wq hq; (try dsimp only at hq); go_simp; first | done | with_reducible rfl)); simp only [Act.put, List.getElem_toArray, List.getElem_cons_zero, List.getElem_cons_succ, List.setIfInBounds_toArray, List.set_cons_zero, List.set_cons_succ])
          (refine' wpAnyH_take (i := 31) rfl (by kernel_rfl) (by kernel_rfl) (by kernel_rfl) (fun _ _ _ h => h) (Or.inl ⟨by rfl, ?_⟩) (by assumption) ?_; rotate_left; (· (intro wq hq; (try dsimp only at hq); go_simp; first | done | with_reducible rfl)); simp only [Act.put, List.getElem_toArray, List.getElem_cons_zero, List.getElem_cons_succ, List.setIfInBounds_toArray, List.set_cons_zero, List.set_cons_succ])
          (refine' wpAnyH_take (i := 32) rfl (by kernel_rfl) (by kernel_rfl) (by kernel_rfl) (fun _ _ _ h => h) (Or.inl ⟨by rfl, ?_⟩) (by assumption) ?_; rotate_left; (· (intro wq hq; (try dsimp only at hq); go_simp; first | done | with_reducible rfl)); simp only [Act.put, List.getElem_toArray, List.getElem_cons_zero, List.getElem_cons_succ, List.setIfInBounds_toArray, List.set_cons_zero, List.set_cons_succ])
          (refine' wpAnyH_take (i := 33) rfl (by kernel_rfl) (by kernel_rfl) (by kernel_rfl) (fun _ _ _ h => h) (Or.inl ⟨by rfl, ?_⟩) (by assumption) ?_; rotate_left; (· (intro wq hq; (try dsimp only at hq); go_simp; first | done | with_reducible rfl)); simp only [Act.put, List.getElem_toArray, List.getElem_cons_zero, List.getElem_cons_succ, List.setIfInBounds_toArray, List.set_cons_zero, List.set_cons_succ])
          (refine' wpAnyH_take (i := 34) rfl (by kernel_rfl) (by kernel_rfl) (by kernel_rfl) (fun _ _ _ h => h) (Or.inl ⟨by rfl, ?_⟩) (by assumption) ?_; rotate_left; (· (intro wq hq; (try dsimp only at hq); go_simp; first | done | with_reducible rfl)); simp only [Act.put, List.getElem_toArray, List.getElem_cons_zero, List.getElem_cons_succ, List.setIfInBounds_toArray, List.set_cons_zero, List.set_cons_succ])
          refine wpAnyH_ready (rs := [35]) (by kernel_rfl) (by simp) ?_
          refine AllReadyH.cons rfl (fun K hK => ?_) ?_
          ·rw [if_pos (by rfl)]
           go_simp
           refine Calls.mono (qs3.out vo (ha0.out.kept Bo.out) (ha0.out.kept Bo.out)) ?_
           rintro e vq ⟨rfl, hb⟩
           have A0q := hid (A0o.out.keptAll hb)
           have A1q := hid (A1o.out.keptAll hb)
           have A2q := hid (A2o.out.keptAll hb)
           have Bq := hid (Bo.out.trans (hb.mono Bo.out.size))
           clear hb A0o A1o A2o Bo
           refine hK.out _ _ ⟨⟨A0q.out.cell 0, A0q.out.cell 1, A0q.out.cell 2, A0q.out.cell 3, A0q.out.cell 4, A0q.out.cell 5⟩, ⟨A1q.out.cell 0, A1q.out.cell 1, A1q.out.cell 2, A1q.out.cell 3, A1q.out.cell 4, A1q.out.cell 5⟩, ⟨A2q.out.cell 0, A2q.out.cell 1, A2q.out.cell 2, A2q.out.cell 3, A2q.out.cell 4, A2q.out.cell 5⟩⟩ (fun _ => ?_)
           clear hK K
           (refine' wpAnyH_take (i := 36) rfl (by kernel_rfl) (by kernel_rfl) (by kernel_rfl) (fun _ _ _ h => h) (Or.inl ⟨by rfl, ?_⟩) (by assumption) ?_; rotate_left; (· (intro wq hq; (try dsimp only at hq); go_simp; first | done | with_reducible rfl)); simp only [Act.put, List.getElem_toArray, List.getElem_cons_zero, List.getElem_cons_succ, List.setIfInBounds_toArray, List.set_cons_zero, List.set_cons_succ])
           (refine' wpAnyH_take (i := 37) rfl (by kernel_rfl) (by kernel_rfl) (by kernel_rfl) (fun _ _ _ h => h) (Or.inl ⟨by rfl, ?_⟩) (by assumption) ?_; rotate_left; (· (intro wq hq; (try dsimp only at hq); go_simp; first | done | with_reducible rfl)); simp only [Act.put, List.getElem_toArray, List.getElem_cons_zero, List.getElem_cons_succ, List.setIfInBounds_toArray, List.set_cons_zero, List.set_cons_succ])
           refine wpAnyH_done (by kernel_rfl) ?_ _
           clear hx0
           have c0 := A0q.out.cell 0
           have c1 := A0q.out.cell 1
           have c2 := A0q.out.cell 2
           have c3 := A0q.out.cell 3
           have c4 := A0q.out.cell 4
           have c5 := A0q.out.cell 5
           simp only [List.getElem?_toArray, List.getElem?_cons_zero, List.getElem?_cons_succ] at c0 c1 c2 c3 c4 c5
           have d0 := A1q.out.cell 0
           have d1 := A1q.out.cell 1
           have d2 := A1q.out.cell 2
           have d3 := A1q.out.cell 3
           have d4 := A1q.out.cell 4
           have d5 := A1q.out.cell 5
           simp only [List.getElem?_toArray, List.getElem?_cons_zero, List.getElem?_cons_succ] at d0 d1 d2 d3 d4 d5
           go_wp2_with fail
           refine Calls.mono (qs.out vq (ha0.out.kept Bq.out) (ha1.out.kept Bq.out)) ?_
           rintro e vt ⟨rfl, hb⟩
           clear c0 c1 c2 c3 c4 c5 d0 d1 d2 d3 d4 d5
           have A0t := hid (A0q.out.keptAll hb)
           have A1t := hid (A1q.out.keptAll hb)
           have A2t := hid (A2q.out.keptAll hb)
           have Bt := hid (Bq.out.trans (hb.mono Bq.out.size))
           clear hb A0q A1q A2q Bq
           go_wp2
           go_ret
           exact ⟨rfl, Bt.out⟩
          exact AllReadyH.nil
         exact AllReadyH.nil
        exact AllReadyH.nil
       exact AllReadyH.nil
      exact AllReadyH.nil
     exact AllReadyH.nil
    | b =>
     go_upto_region 6 with fail
     have hx0 : (vi.drew.cell? ⟨p, 0, none⟩ = some (.int .i64 k0) ∧ vi.drew.cell? ⟨p, 1, none⟩ = some (.bool b0) ∧ vi.drew.cell? ⟨p, 2, none⟩ = some (.string r0) ∧ vi.drew.cell? ⟨p, 3, none⟩ = some (.string t0) ∧ vi.drew.cell? ⟨p, 4, none⟩ = some (.slice ko0 N0 kc0) ∧ vi.drew.cell? ⟨p, 5, none⟩ = some (.slice vo0 M0 vc0)) ∧ (vi.drew.cell? ⟨p + 1, 0, none⟩ = some (.int .i64 k1) ∧ vi.drew.cell? ⟨p + 1, 1, none⟩ = some (.bool b1) ∧ vi.drew.cell? ⟨p + 1, 2, none⟩ = some (.string r1) ∧ vi.drew.cell? ⟨p + 1, 3, none⟩ = some (.string t1) ∧ vi.drew.cell? ⟨p + 1, 4, none⟩ = some (.slice ko1 N1 kc1) ∧ vi.drew.cell? ⟨p + 1, 5, none⟩ = some (.slice vo1 M1 vc1)) ∧ (vi.drew.cell? ⟨p + 2, 0, none⟩ = some (.int .i64 k2) ∧ vi.drew.cell? ⟨p + 2, 1, none⟩ = some (.bool b2) ∧ vi.drew.cell? ⟨p + 2, 2, none⟩ = some (.string r2) ∧ vi.drew.cell? ⟨p + 2, 3, none⟩ = some (.string t2) ∧ vi.drew.cell? ⟨p + 2, 4, none⟩ = some (.slice ko2 N2 kc2) ∧ vi.drew.cell? ⟨p + 2, 5, none⟩ = some (.slice vo2 M2 vc2)) := ⟨⟨A0i.out.cell 0, A0i.out.cell 1, A0i.out.cell 2, A0i.out.cell 3, A0i.out.cell 4, A0i.out.cell 5⟩, ⟨A1i.out.cell 0, A1i.out.cell 1, A1i.out.cell 2, A1i.out.cell 3, A1i.out.cell 4, A1i.out.cell 5⟩, ⟨A2i.out.cell 0, A2i.out.cell 1, A2i.out.cell 2, A2i.out.cell 3, A2i.out.cell 4, A2i.out.cell 5⟩⟩
     have q0 := show Below vi.heap.size vi vi.drew from (Below.refl _ _).drew
     have A0j := hid (A0i.out.keptAll q0)
     have A1j := hid (A1i.out.keptAll q0)
     have A2j := hid (A2i.out.keptAll q0)
     have Bj := hid (Bi.out.trans (q0.mono Bi.out.size))
     clear q0 A0i A1i A2i Bi
     refine wp_region_held_drew (S := fun w' => (w'.cell? ⟨p, 0, none⟩ = some (.int .i64 k0) ∧ w'.cell? ⟨p, 1, none⟩ = some (.bool b0) ∧ w'.cell? ⟨p, 2, none⟩ = some (.string r0) ∧ w'.cell? ⟨p, 3, none⟩ = some (.string t0) ∧ w'.cell? ⟨p, 4, none⟩ = some (.slice ko0 N0 kc0) ∧ w'.cell? ⟨p, 5, none⟩ = some (.slice vo0 M0 vc0)) ∧ (w'.cell? ⟨p + 1, 0, none⟩ = some (.int .i64 k1) ∧ w'.cell? ⟨p + 1, 1, none⟩ = some (.bool b1) ∧ w'.cell? ⟨p + 1, 2, none⟩ = some (.string r1) ∧ w'.cell? ⟨p + 1, 3, none⟩ = some (.string t1) ∧ w'.cell? ⟨p + 1, 4, none⟩ = some (.slice ko1 N1 kc1) ∧ w'.cell? ⟨p + 1, 5, none⟩ = some (.slice vo1 M1 vc1)) ∧ (w'.cell? ⟨p + 2, 0, none⟩ = some (.int .i64 k2) ∧ w'.cell? ⟨p + 2, 1, none⟩ = some (.bool b2) ∧ w'.cell? ⟨p + 2, 2, none⟩ = some (.string r2) ∧ w'.cell? ⟨p + 2, 3, none⟩ = some (.string t2) ∧ w'.cell? ⟨p + 2, 4, none⟩ = some (.slice ko2 N2 kc2) ∧ w'.cell? ⟨p + 2, 5, none⟩ = some (.slice vo2 M2 vc2))) (by kernel_rfl) hx0 (fun hHeld => ?_)
     clear hHeld
     generalize vi.drew = vj at *
     (refine' wpAnyH_take (i := 0) rfl (by kernel_rfl) (by kernel_rfl) (by kernel_rfl) (fun _ _ _ h => h) (Or.inl ⟨by rfl, ?_⟩) (by assumption) ?_; rotate_left; (· (intro wq hq; (try dsimp only at hq); go_simp; first | done | with_reducible rfl)); simp only [Act.put, List.getElem_toArray, List.getElem_cons_zero, List.setIfInBounds_toArray, List.set_cons_zero, List.set_cons_succ])
     (refine' wpAnyH_take (i := 1) rfl (by kernel_rfl) (by kernel_rfl) (by kernel_rfl) (fun _ _ _ h => h) (Or.inl ⟨by rfl, ?_⟩) (by assumption) ?_; rotate_left; (· (intro wq hq; (try dsimp only at hq); go_simp; first | done | with_reducible rfl)); simp only [Act.put, List.getElem_toArray, List.getElem_cons_zero, List.getElem_cons_succ, List.setIfInBounds_toArray, List.set_cons_zero, List.set_cons_succ])
     (refine' wpAnyH_take (i := 2) rfl (by kernel_rfl) (by kernel_rfl) (by kernel_rfl) (fun _ _ _ h => h) (Or.inl ⟨by rfl, ?_⟩) (by assumption) ?_; rotate_left; (· (intro wq hq; (try dsimp only at hq); go_simp; first | done | with_reducible rfl)); simp only [Act.put, List.getElem_toArray, List.getElem_cons_zero, List.getElem_cons_succ, List.setIfInBounds_toArray, List.set_cons_zero, List.set_cons_succ])
     refine wpAnyH_ready (rs := [3]) (by kernel_rfl) (by simp) ?_
     refine AllReadyH.cons rfl (fun K hK => ?_) ?_
     ·rw [if_pos (by rfl)]
      go_simp
      refine Calls.mono (qxs'.out vj (hT'.out.below Bj.out) (ha1.out.kept Bj.out) (ha0.out.kept Bj.out)) ?_
      rintro e vk ⟨rfl, hb⟩
      have A0k := hid (A0j.out.keptAll hb)
      have A1k := hid (A1j.out.keptAll hb)
      have A2k := hid (A2j.out.keptAll hb)
      have Bk := hid (Bj.out.trans (hb.mono Bj.out.size))
      clear hb A0j A1j A2j Bj
      refine hK.out _ _ ⟨⟨A0k.out.cell 0, A0k.out.cell 1, A0k.out.cell 2, A0k.out.cell 3, A0k.out.cell 4, A0k.out.cell 5⟩, ⟨A1k.out.cell 0, A1k.out.cell 1, A1k.out.cell 2, A1k.out.cell 3, A1k.out.cell 4, A1k.out.cell 5⟩, ⟨A2k.out.cell 0, A2k.out.cell 1, A2k.out.cell 2, A2k.out.cell 3, A2k.out.cell 4, A2k.out.cell 5⟩⟩ (fun _ => ?_)
      clear hK K
      (refine' wpAnyH_take (i := 4) rfl (by kernel_rfl) (by kernel_rfl) (by kernel_rfl) (fun _ _ _ h => h) (Or.inl ⟨by rfl, ?_⟩) (by assumption) ?_; rotate_left; (· (intro wq hq; (try dsimp only at hq); go_simp; first | done | with_reducible rfl)); simp only [Act.put, List.getElem_toArray, List.getElem_cons_zero, List.getElem_cons_succ, List.setIfInBounds_toArray, List.set_cons_zero, List.set_cons_succ])
      (refine' wpAnyH_take (i := 5) rfl (by kernel_rfl) (by kernel_rfl) (by kernel_rfl) (fun _ _ _ h => h) (Or.inl ⟨by rfl, ?_⟩) (by assumption) ?_; rotate_left; (· (intro wq hq; (try dsimp only at hq); go_simp; first | done | with_reducible rfl)); simp only [Act.put, List.getElem_toArray, List.getElem_cons_zero, List.getElem_cons_succ, List.setIfInBounds_toArray, List.set_cons_zero, List.set_cons_succ])
      (refine' wpAnyH_take (i := 6) rfl (by kernel_rfl) (by kernel_rfl) (by kernel_rfl) (fun _ _ _ h => h) (Or.inl ⟨by rfl, ?_⟩) (by assumption) ?_; rotate_left; (· (intro wq hq; (try dsimp only at hq); go_simp; first | done | with_reducible rfl)); simp only [Act.put, List.getElem_toArray, List.getElem_cons_zero, List.getElem_cons_succ, List.setIfInBounds_toArray, List.set_cons_zero, List.set_cons_succ])
      (refine' wpAnyH_take (i := 7) rfl (by kernel_rfl) (by kernel_rfl) (by kernel_rfl) (fun _ _ _ h => h) (Or.inl ⟨by rfl, ?_⟩) (by assumption) ?_; rotate_left; (· (intro wq hq; (try dsimp only at hq); go_simp; first | done | with_reducible rfl)); simp only [Act.put, List.getElem_toArray, List.getElem_cons_zero, List.getElem_cons_succ, List.setIfInBounds_toArray, List.set_cons_zero, List.set_cons_succ])
      (refine wpAnyH_take (i := 8) (v := undef) rfl (by kernel_rfl) (by kernel_rfl) (by kernel_rfl) (fun _ _ _ h => h) (Or.inr ⟨by rfl, rfl⟩) (by assumption) ?_; simp only [Act.put, List.getElem_toArray, List.getElem_cons_zero, List.getElem_cons_succ, List.setIfInBounds_toArray, List.set_cons_zero, List.set_cons_succ])
      (refine' wpAnyH_take (i := 9) rfl (by kernel_rfl) (by kernel_rfl) (by kernel_rfl) (fun _ _ _ h => h) (Or.inl ⟨by rfl, ?_⟩) (by assumption) ?_; rotate_left; (· (intro wq hq; (try dsimp only at hq); go_simp; first | done | with_reducible rfl)); simp only [Act.put, List.getElem_toArray, List.getElem_cons_zero, List.getElem_cons_succ, List.setIfInBounds_toArray, List.set_cons_zero, List.set_cons_succ])
      (refine' wpAnyH_take (i := 10) rfl (by kernel_rfl) (by kernel_rfl) (by kernel_rfl) (fun _ _ _ h => h) (Or.inl ⟨by rfl, ?_⟩) (by assumption) ?_; rotate_left; (· (intro wq hq; (try dsimp only at hq); go_simp; first | done | with_reducible rfl)); simp only [Act.put, List.getElem_toArray, List.getElem_cons_zero, List.getElem_cons_succ, List.setIfInBounds_toArray, List.set_cons_zero, List.set_cons_succ])
      (refine wpAnyH_take (i := 11) (v := undef) rfl (by kernel_rfl) (by kernel_rfl) (by kernel_rfl) (fun _ _ _ h => h) (Or.inr ⟨by rfl, rfl⟩) (by assumption) ?_; simp only [Act.put, List.getElem_toArray, List.getElem_cons_zero, List.getElem_cons_succ, List.setIfInBounds_toArray, List.set_cons_zero, List.set_cons_succ])
      (refine wpAnyH_take (i := 12) (v := undef) rfl (by kernel_rfl) (by kernel_rfl) (by kernel_rfl) (fun _ _ _ h => h) (Or.inr ⟨by rfl, rfl⟩) (by assumption) ?_; simp only [Act.put, List.getElem_toArray, List.getElem_cons_zero, List.getElem_cons_succ, List.setIfInBounds_toArray, List.set_cons_zero, List.set_cons_succ])
      (refine' wpAnyH_take (i := 13) rfl (by kernel_rfl) (by kernel_rfl) (by kernel_rfl) (fun _ _ _ h => h) (Or.inl ⟨by rfl, ?_⟩) (by assumption) ?_; rotate_left; (· (intro wq hq; (try dsimp only at hq); go_simp; first | done | with_reducible rfl)); simp only [Act.put, List.getElem_toArray, List.getElem_cons_zero, List.getElem_cons_succ, List.setIfInBounds_toArray, List.set_cons_zero, List.set_cons_succ])
      (refine' wpAnyH_take (i := 14) rfl (by kernel_rfl) (by kernel_rfl) (by kernel_rfl) (fun _ _ _ h => h) (Or.inl ⟨by rfl, ?_⟩) (by assumption) ?_; rotate_left; (· (intro wq hq; (try dsimp only at hq); go_simp; first | done | with_reducible rfl)); simp only [Act.put, List.getElem_toArray, List.getElem_cons_zero, List.getElem_cons_succ, List.setIfInBounds_toArray, List.set_cons_zero, List.set_cons_succ])
      (refine' wpAnyH_take (i := 15) rfl (by kernel_rfl) (by kernel_rfl) (by kernel_rfl) (fun _ _ _ h => h) (Or.inl ⟨by rfl, ?_⟩) (by assumption) ?_; rotate_left; (· (intro wq hq; (try dsimp only at hq); go_simp; first | done | with_reducible rfl)); simp only [Act.put, List.getElem_toArray, List.getElem_cons_zero, List.getElem_cons_succ, List.setIfInBounds_toArray, List.set_cons_zero, List.set_cons_succ])
      (refine' wpAnyH_take (i := 16) rfl (by kernel_rfl) (by kernel_rfl) (by kernel_rfl) (fun _ _ _ h => h) (Or.inl ⟨by rfl, ?_⟩) (by assumption) ?_; rotate_left; (· (intro wq hq; (try dsimp only at hq); go_simp; first | done | with_reducible rfl)); simp only [Act.put, List.getElem_toArray, List.getElem_cons_zero, List.getElem_cons_succ, List.setIfInBounds_toArray, List.set_cons_zero, List.set_cons_succ])
      (refine' wpAnyH_take (i := 17) rfl (by kernel_rfl) (by kernel_rfl) (by kernel_rfl) (fun _ _ _ h => h) (Or.inl ⟨by rfl, ?_⟩) (by assumption) ?_; rotate_left; (· (intro wq hq; (try dsimp only at hq); go_simp; first | done | with_reducible rfl)); simp only [Act.put, List.getElem_toArray, List.getElem_cons_zero, List.getElem_cons_succ, List.setIfInBounds_toArray, List.set_cons_zero, List.set_cons_succ])
      (refine' wpAnyH_take (i := 19) rfl (by kernel_rfl) (by kernel_rfl) (by kernel_rfl) (fun _ _ _ h => h) (Or.inl ⟨by rfl, ?_⟩) (by assumption) ?_; rotate_left; (· (intro wq hq; (try dsimp only at hq); go_simp; first | done | with_reducible rfl)); simp only [Act.put, List.getElem_toArray, List.getElem_cons_zero, List.getElem_cons_succ, List.setIfInBounds_toArray, List.set_cons_zero, List.set_cons_succ])
      refine wpAnyH_ready (rs := [18]) (by kernel_rfl) (by simp) ?_
      refine AllReadyH.cons rfl (fun K hK => ?_) ?_
      ·rw [if_pos (by rfl)]
       go_simp
       refine Calls.mono (qr.out vk (hT'.out.below Bk.out) (ha0.out.kept Bk.out) (ha0.out.kept Bk.out)) ?_
       rintro e vl ⟨rfl, hb⟩
       have A0l := hid (A0k.out.keptAll hb)
       have A1l := hid (A1k.out.keptAll hb)
       have A2l := hid (A2k.out.keptAll hb)
       have Bl := hid (Bk.out.trans (hb.mono Bk.out.size))
       clear hb A0k A1k A2k Bk
       refine hK.out _ _ ⟨⟨A0l.out.cell 0, A0l.out.cell 1, A0l.out.cell 2, A0l.out.cell 3, A0l.out.cell 4, A0l.out.cell 5⟩, ⟨A1l.out.cell 0, A1l.out.cell 1, A1l.out.cell 2, A1l.out.cell 3, A1l.out.cell 4, A1l.out.cell 5⟩, ⟨A2l.out.cell 0, A2l.out.cell 1, A2l.out.cell 2, A2l.out.cell 3, A2l.out.cell 4, A2l.out.cell 5⟩⟩ (fun _ => ?_)
       clear hK K
       refine wpAnyH_ready (rs := [20]) (by kernel_rfl) (by simp) ?_
       refine AllReadyH.cons rfl (fun K hK => ?_) ?_
       ·rw [if_pos (by rfl)]
        go_simp
        refine Calls.mono (qf.out vl (hT'.out.below Bl.out) (ha0.out.kept Bl.out)) ?_
        rintro e vm ⟨rfl, hb⟩
        have A0m := hid (A0l.out.keptAll hb)
        have A1m := hid (A1l.out.keptAll hb)
        have A2m := hid (A2l.out.keptAll hb)
        have Bm := hid (Bl.out.trans (hb.mono Bl.out.size))
        clear hb A0l A1l A2l Bl
        refine hK.out _ _ ⟨⟨A0m.out.cell 0, A0m.out.cell 1, A0m.out.cell 2, A0m.out.cell 3, A0m.out.cell 4, A0m.out.cell 5⟩, ⟨A1m.out.cell 0, A1m.out.cell 1, A1m.out.cell 2, A1m.out.cell 3, A1m.out.cell 4, A1m.out.cell 5⟩, ⟨A2m.out.cell 0, A2m.out.cell 1, A2m.out.cell 2, A2m.out.cell 3, A2m.out.cell 4, A2m.out.cell 5⟩⟩ (fun _ => ?_)
        clear hK K
        (refine' wpAnyH_take (i := 21) rfl (by kernel_rfl) (by kernel_rfl) (by kernel_rfl) (fun _ _ _ h => h) (Or.inl ⟨by rfl, ?_⟩) (by assumption) ?_; rotate_left; (· (intro wq hq; (try dsimp only at hq); go_simp; first | done | with_reducible rfl)); simp only [Act.put, List.getElem_toArray, List.getElem_cons_zero, List.getElem_cons_succ, List.setIfInBounds_toArray, List.set_cons_zero, List.set_cons_succ])
        (refine' wpAnyH_take (i := 22) rfl (by kernel_rfl) (by kernel_rfl) (by kernel_rfl) (fun _ _ _ h => h) (Or.inl ⟨by rfl, ?_⟩) (by assumption) ?_; rotate_left; (· (intro wq hq; (try dsimp only at hq); go_simp; first | done | with_reducible rfl)); simp only [Act.put, List.getElem_toArray, List.getElem_cons_zero, List.getElem_cons_succ, List.setIfInBounds_toArray, List.set_cons_zero, List.set_cons_succ])
        (refine' wpAnyH_take (i := 23) rfl (by kernel_rfl) (by kernel_rfl) (by kernel_rfl) (fun _ _ _ h => h) (Or.inl ⟨by rfl, ?_⟩) (by assumption) ?_; rotate_left; (· (intro wq hq; (try dsimp only at hq); go_simp; first | done | with_reducible rfl)); simp only [Act.put, List.getElem_toArray, List.getElem_cons_zero, List.getElem_cons_succ, List.setIfInBounds_toArray, List.set_cons_zero, List.set_cons_succ])
        (refine' wpAnyH_take (i := 24) rfl (by kernel_rfl) (by kernel_rfl) (by kernel_rfl) (fun _ _ _ h => h) (Or.inl ⟨by rfl, ?_⟩) (by assumption) ?_; rotate_left; (· (intro wq hq; (try dsimp only at hq); go_simp; first | done | with_reducible rfl)); simp only [Act.put, List.getElem_toArray, List.getElem_cons_zero, List.getElem_cons_succ, List.setIfInBounds_toArray, List.set_cons_zero, List.set_cons_succ])
        (refine' wpAnyH_take (i := 25) rfl (by kernel_rfl) (by kernel_rfl) (by kernel_rfl) (fun _ _ _ h => h) (Or.inl ⟨by rfl, ?_⟩) (by assumption) ?_; rotate_left; (· (intro wq hq; (try dsimp only at hq); go_simp; first | done | with_reducible rfl)); simp only [Act.put, List.getElem_toArray, List.getElem_cons_zero, List.getElem_cons_succ, List.setIfInBounds_toArray, List.set_cons_zero, List.set_cons_succ])
        (refine' wpAnyH_take (i := 27) rfl (by kernel_rfl) (by kernel_rfl) (by kernel_rfl) (fun _ _ _ h => h) (Or.inl ⟨by rfl, ?_⟩) (by assumption) ?_; rotate_left; (· (intro wq hq; (try dsimp only at hq); go_simp; first | done | with_reducible rfl)); simp only [Act.put, List.getElem_toArray, List.getElem_cons_zero, List.getElem_cons_succ, List.setIfInBounds_toArray, List.set_cons_zero, List.set_cons_succ])
        (refine' wpAnyH_take (i := 28) rfl (by kernel_rfl) (by kernel_rfl) (by kernel_rfl) (fun _ _ _ h => h) (Or.inl ⟨by rfl, ?_⟩) (by assumption) ?_; rotate_left; (· (intro wq hq; (try dsimp only at hq); go_simp; first | done | with_reducible rfl)); simp only [Act.put, List.getElem_toArray, List.getElem_cons_zero, List.getElem_cons_succ, List.setIfInBounds_toArray, List.set_cons_zero, List.set_cons_succ])
        refine wpAnyH_ready (rs := [26]) (by kernel_rfl) (by simp) ?_
        refine AllReadyH.cons rfl (fun K hK => ?_) ?_
        ·rw [if_pos (by rfl)]
         go_simp
         refine Calls.mono (qs.out vm (ha0.out.kept Bm.out) (ha1.out.kept Bm.out)) ?_
         rintro e vn ⟨rfl, hb⟩
         have A0n := hid (A0m.out.keptAll hb)
         have A1n := hid (A1m.out.keptAll hb)
         have A2n := hid (A2m.out.keptAll hb)
         have Bn := hid (Bm.out.trans (hb.mono Bm.out.size))
         clear hb A0m A1m A2m Bm
         refine hK.out _ _ ⟨⟨A0n.out.cell 0, A0n.out.cell 1, A0n.out.cell 2, A0n.out.cell 3, A0n.out.cell 4, A0n.out.cell 5⟩, ⟨A1n.out.cell 0, A1n.out.cell 1, A1n.out.cell 2, A1n.out.cell 3, A1n.out.cell 4, A1n.out.cell 5⟩, ⟨A2n.out.cell 0, A2n.out.cell 1, A2n.out.cell 2, A2n.out.cell 3, A2n.out.cell 4, A2n.out.cell 5⟩⟩ (fun _ => ?_)
         clear hK K
         refine wpAnyH_ready (rs := [29]) (by kernel_rfl) (by simp) ?_
         refine AllReadyH.cons rfl (fun K hK => ?_) ?_
         ·rw [if_pos (by rfl)]
          go_simp
          refine Calls.mono (qs2.out vn (ha1.out.kept Bn.out) (ha0.out.kept Bn.out)) ?_
          rintro e vo ⟨rfl, hb⟩
          have A0o := hid (A0n.out.keptAll hb)
          have A1o := hid (A1n.out.keptAll hb)
          have A2o := hid (A2n.out.keptAll hb)
          have Bo := hid (Bn.out.trans (hb.mono Bn.out.size))
          clear hb A0n A1n A2n Bn
          refine hK.out _ _ ⟨⟨A0o.out.cell 0, A0o.out.cell 1, A0o.out.cell 2, A0o.out.cell 3, A0o.out.cell 4, A0o.out.cell 5⟩, ⟨A1o.out.cell 0, A1o.out.cell 1, A1o.out.cell 2, A1o.out.cell 3, A1o.out.cell 4, A1o.out.cell 5⟩, ⟨A2o.out.cell 0, A2o.out.cell 1, A2o.out.cell 2, A2o.out.cell 3, A2o.out.cell 4, A2o.out.cell 5⟩⟩ (fun _ => ?_)
          clear hK K
          (refine' wpAnyH_take (i := 30) rfl (by kernel_rfl) (by kernel_rfl) (by kernel_rfl) (fun _ _ _ h => h) (Or.inl ⟨by rfl, ?_⟩) (by assumption) ?_; rotate_left; (· (intro wq hq; (try dsimp only at hq); go_simp; first | done | with_reducible rfl)); simp only [Act.put, List.getElem_toArray, List.getElem_cons_zero, List.getElem_cons_succ, List.setIfInBounds_toArray, List.set_cons_zero, List.set_cons_succ])
          (refine' wpAnyH_take (i := 31) rfl (by kernel_rfl) (by kernel_rfl) (by kernel_rfl) (fun _ _ _ h => h) (Or.inl ⟨by rfl, ?_⟩) (by assumption) ?_; rotate_left; (· (intro wq hq; (try dsimp only at hq); go_simp; first | done | with_reducible rfl)); simp only [Act.put, List.getElem_toArray, List.getElem_cons_zero, List.getElem_cons_succ, List.setIfInBounds_toArray, List.set_cons_zero, List.set_cons_succ])
          (refine' wpAnyH_take (i := 32) rfl (by kernel_rfl) (by kernel_rfl) (by kernel_rfl) (fun _ _ _ h => h) (Or.inl ⟨by rfl, ?_⟩) (by assumption) ?_; rotate_left; (· (intro wq hq; (try dsimp only at hq); go_simp; first | done | with_reducible rfl)); simp only [Act.put, List.getElem_toArray, List.getElem_cons_zero, List.getElem_cons_succ, List.setIfInBounds_toArray, List.set_cons_zero, List.set_cons_succ])
          (refine' wpAnyH_take (i := 33) rfl (by kernel_rfl) (by kernel_rfl) (by kernel_rfl) (fun _ _ _ h => h) (Or.inl ⟨by rfl, ?_⟩) (by assumption) ?_; rotate_left; (· (intro wq hq; (try dsimp only at hq); go_simp; first | done | with_reducible rfl)); simp only [Act.put, List.getElem_toArray, List.getElem_cons_zero, List.getElem_cons_succ, List.setIfInBounds_toArray, List.set_cons_zero, List.set_cons_succ])
          (refine' wpAnyH_take (i := 34) rfl (by kernel_rfl) (by kernel_rfl) (by kernel_rfl) (fun _ _ _ h => h) (Or.inl ⟨by rfl, ?_⟩) (by assumption) ?_; rotate_left; (· (intro wq hq; (try dsimp only at hq); go_simp; first | done | with_reducible rfl)); simp only [Act.put, List.getElem_toArray, List.getElem_cons_zero, List.getElem_cons_succ, List.setIfInBounds_toArray, List.set_cons_zero, List.set_cons_succ])
          refine wpAnyH_ready (rs := [35]) (by kernel_rfl) (by simp) ?_
          refine AllReadyH.cons rfl (fun K hK => ?_) ?_
          ·rw [if_pos (by rfl)]
           go_simp
           refine Calls.mono (qs3.out vo (ha0.out.kept Bo.out) (ha0.out.kept Bo.out)) ?_
           rintro e vq ⟨rfl, hb⟩
           have A0q := hid (A0o.out.keptAll hb)
           have A1q := hid (A1o.out.keptAll hb)
           have A2q := hid (A2o.out.keptAll hb)
           have Bq := hid (Bo.out.trans (hb.mono Bo.out.size))
           clear hb A0o A1o A2o Bo
           refine hK.out _ _ ⟨⟨A0q.out.cell 0, A0q.out.cell 1, A0q.out.cell 2, A0q.out.cell 3, A0q.out.cell 4, A0q.out.cell 5⟩, ⟨A1q.out.cell 0, A1q.out.cell 1, A1q.out.cell 2, A1q.out.cell 3, A1q.out.cell 4, A1q.out.cell 5⟩, ⟨A2q.out.cell 0, A2q.out.cell 1, A2q.out.cell 2, A2q.out.cell 3, A2q.out.cell 4, A2q.out.cell 5⟩⟩ (fun _ => ?_)
           clear hK K
           (refine' wpAnyH_take (i := 36) rfl (by kernel_rfl) (by kernel_rfl) (by kernel_rfl) (fun _ _ _ h => h) (Or.inl ⟨by rfl, ?_⟩) (by assumption) ?_; rotate_left; (· (intro wq hq; (try dsimp only at hq); go_simp; first | done | with_reducible rfl)); simp only [Act.put, List.getElem_toArray, List.getElem_cons_zero, List.getElem_cons_succ, List.setIfInBounds_toArray, List.set_cons_zero, List.set_cons_succ])
           (refine' wpAnyH_take (i := 37) rfl (by kernel_rfl) (by kernel_rfl) (by kernel_rfl) (fun _ _ _ h => h) (Or.inl ⟨by rfl, ?_⟩) (by assumption) ?_; rotate_left; (· (intro wq hq; (try dsimp only at hq); go_simp; first | done | with_reducible rfl)); simp only [Act.put, List.getElem_toArray, List.getElem_cons_zero, List.getElem_cons_succ, List.setIfInBounds_toArray, List.set_cons_zero, List.set_cons_succ])
           refine wpAnyH_done (by kernel_rfl) ?_ _
           clear hx0
           have c0 := A0q.out.cell 0
           have c1 := A0q.out.cell 1
           have c2 := A0q.out.cell 2
           have c3 := A0q.out.cell 3
           have c4 := A0q.out.cell 4
           have c5 := A0q.out.cell 5
           simp only [List.getElem?_toArray, List.getElem?_cons_zero, List.getElem?_cons_succ] at c0 c1 c2 c3 c4 c5
           have d0 := A1q.out.cell 0
           have d1 := A1q.out.cell 1
           have d2 := A1q.out.cell 2
           have d3 := A1q.out.cell 3
           have d4 := A1q.out.cell 4
           have d5 := A1q.out.cell 5
           simp only [List.getElem?_toArray, List.getElem?_cons_zero, List.getElem?_cons_succ] at d0 d1 d2 d3 d4 d5
           go_wp2_with fail
           refine Calls.mono (qs.out vq (ha0.out.kept Bq.out) (ha1.out.kept Bq.out)) ?_
           rintro e vt ⟨rfl, hb⟩
           clear c0 c1 c2 c3 c4 c5 d0 d1 d2 d3 d4 d5
           have A0t := hid (A0q.out.keptAll hb)
           have A1t := hid (A1q.out.keptAll hb)
           have A2t := hid (A2q.out.keptAll hb)
           have Bt := hid (Bq.out.trans (hb.mono Bq.out.size))
           clear hb A0q A1q A2q Bq
           have c0 := A0t.out.cell 0
           have c1 := A0t.out.cell 1
           have c2 := A0t.out.cell 2
           have c3 := A0t.out.cell 3
           have c4 := A0t.out.cell 4
           have c5 := A0t.out.cell 5
           simp only [List.getElem?_toArray, List.getElem?_cons_zero, List.getElem?_cons_succ] at c0 c1 c2 c3 c4 c5
           go_wp2_with fail
           refine Calls.mono (qf.out vt (hT'.out.below Bt.out) (ha0.out.kept Bt.out)) ?_
           rintro e vu ⟨rfl, hb⟩
           clear c0 c1 c2 c3 c4 c5
           have A0u := hid (A0t.out.keptAll hb)
           have A1u := hid (A1t.out.keptAll hb)
           have A2u := hid (A2t.out.keptAll hb)
           have Bu := hid (Bt.out.trans (hb.mono Bt.out.size))
           clear hb A0t A1t A2t Bt
           go_wp2
           go_ret
           exact ⟨rfl, Bu.out⟩
          exact AllReadyH.nil
         exact AllReadyH.nil
        exact AllReadyH.nil
       exact AllReadyH.nil
      exact AllReadyH.nil
     exact AllReadyH.nil
    | c =>
     go_upto_region 6 with fail
     have hx0 : (vi.drew.cell? ⟨p, 0, none⟩ = some (.int .i64 k0) ∧ vi.drew.cell? ⟨p, 1, none⟩ = some (.bool b0) ∧ vi.drew.cell? ⟨p, 2, none⟩ = some (.string r0) ∧ vi.drew.cell? ⟨p, 3, none⟩ = some (.string t0) ∧ vi.drew.cell? ⟨p, 4, none⟩ = some (.slice ko0 N0 kc0) ∧ vi.drew.cell? ⟨p, 5, none⟩ = some (.slice vo0 M0 vc0)) ∧ (vi.drew.cell? ⟨p + 1, 0, none⟩ = some (.int .i64 k1) ∧ vi.drew.cell? ⟨p + 1, 1, none⟩ = some (.bool b1) ∧ vi.drew.cell? ⟨p + 1, 2, none⟩ = some (.string r1) ∧ vi.drew.cell? ⟨p + 1, 3, none⟩ = some (.string t1) ∧ vi.drew.cell? ⟨p + 1, 4, none⟩ = some (.slice ko1 N1 kc1) ∧ vi.drew.cell? ⟨p + 1, 5, none⟩ = some (.slice vo1 M1 vc1)) ∧ (vi.drew.cell? ⟨p + 2, 0, none⟩ = some (.int .i64 k2) ∧ vi.drew.cell? ⟨p + 2, 1, none⟩ = some (.bool b2) ∧ vi.drew.cell? ⟨p + 2, 2, none⟩ = some (.string r2) ∧ vi.drew.cell? ⟨p + 2, 3, none⟩ = some (.string t2) ∧ vi.drew.cell? ⟨p + 2, 4, none⟩ = some (.slice ko2 N2 kc2) ∧ vi.drew.cell? ⟨p + 2, 5, none⟩ = some (.slice vo2 M2 vc2)) := ⟨⟨A0i.out.cell 0, A0i.out.cell 1, A0i.out.cell 2, A0i.out.cell 3, A0i.out.cell 4, A0i.out.cell 5⟩, ⟨A1i.out.cell 0, A1i.out.cell 1, A1i.out.cell 2, A1i.out.cell 3, A1i.out.cell 4, A1i.out.cell 5⟩, ⟨A2i.out.cell 0, A2i.out.cell 1, A2i.out.cell 2, A2i.out.cell 3, A2i.out.cell 4, A2i.out.cell 5⟩⟩
     have q0 := show Below vi.heap.size vi vi.drew from (Below.refl _ _).drew
     have A0j := hid (A0i.out.keptAll q0)
     have A1j := hid (A1i.out.keptAll q0)
     have A2j := hid (A2i.out.keptAll q0)
     have Bj := hid (Bi.out.trans (q0.mono Bi.out.size))
     clear q0 A0i A1i A2i Bi
     refine wp_region_held_drew (S := fun w' => (w'.cell? ⟨p, 0, none⟩ = some (.int .i64 k0) ∧ w'.cell? ⟨p, 1, none⟩ = some (.bool b0) ∧ w'.cell? ⟨p, 2, none⟩ = some (.string r0) ∧ w'.cell? ⟨p, 3, none⟩ = some (.string t0) ∧ w'.cell? ⟨p, 4, none⟩ = some (.slice ko0 N0 kc0) ∧ w'.cell? ⟨p, 5, none⟩ = some (.slice vo0 M0 vc0)) ∧ (w'.cell? ⟨p + 1, 0, none⟩ = some (.int .i64 k1) ∧ w'.cell? ⟨p + 1, 1, none⟩ = some (.bool b1) ∧ w'.cell? ⟨p + 1, 2, none⟩ = some (.string r1) ∧ w'.cell? ⟨p + 1, 3, none⟩ = some (.string t1) ∧ w'.cell? ⟨p + 1, 4, none⟩ = some (.slice ko1 N1 kc1) ∧ w'.cell? ⟨p + 1, 5, none⟩ = some (.slice vo1 M1 vc1)) ∧ (w'.cell? ⟨p + 2, 0, none⟩ = some (.int .i64 k2) ∧ w'.cell? ⟨p + 2, 1, none⟩ = some (.bool b2) ∧ w'.cell? ⟨p + 2, 2, none⟩ = some (.string r2) ∧ w'.cell? ⟨p + 2, 3, none⟩ = some (.string t2) ∧ w'.cell? ⟨p + 2, 4, none⟩ = some (.slice ko2 N2 kc2) ∧ w'.cell? ⟨p + 2, 5, none⟩ = some (.slice vo2 M2 vc2))) (by kernel_rfl) hx0 (fun hHeld => ?_)
     clear hHeld
     generalize vi.drew = vj at *
     (refine' wpAnyH_take (i := 0) rfl (by kernel_rfl) (by kernel_rfl) (by kernel_rfl) (fun _ _ _ h => h) (Or.inl ⟨by rfl, ?_⟩) (by assumption) ?_; rotate_left; (· (intro wq hq; (try dsimp only at hq); go_simp; first | done | with_reducible rfl)); simp only [Act.put, List.getElem_toArray, List.getElem_cons_zero, List.setIfInBounds_toArray, List.set_cons_zero, List.set_cons_succ])
     (refine' wpAnyH_take (i := 1) rfl (by kernel_rfl) (by kernel_rfl) (by kernel_rfl) (fun _ _ _ h => h) (Or.inl ⟨by rfl, ?_⟩) (by assumption) ?_; rotate_left; (· (intro wq hq; (try dsimp only at hq); go_simp; first | done | with_reducible rfl)); simp only [Act.put, List.getElem_toArray, List.getElem_cons_zero, List.getElem_cons_succ, List.setIfInBounds_toArray, List.set_cons_zero, List.set_cons_succ])
     (refine' wpAnyH_take (i := 2) rfl (by kernel_rfl) (by kernel_rfl) (by kernel_rfl) (fun _ _ _ h => h) (Or.inl ⟨by rfl, ?_⟩) (by assumption) ?_; rotate_left; (· (intro wq hq; (try dsimp only at hq); go_simp; first | done | with_reducible rfl)); simp only [Act.put, List.getElem_toArray, List.getElem_cons_zero, List.getElem_cons_succ, List.setIfInBounds_toArray, List.set_cons_zero, List.set_cons_succ])
     refine wpAnyH_ready (rs := [3]) (by kernel_rfl) (by simp) ?_
     refine AllReadyH.cons rfl (fun K hK => ?_) ?_
     ·rw [if_pos (by rfl)]
      go_simp
      refine Calls.mono (qxs'.out vj (hT'.out.below Bj.out) (ha1.out.kept Bj.out) (ha0.out.kept Bj.out)) ?_
      rintro e vk ⟨rfl, hb⟩
      have A0k := hid (A0j.out.keptAll hb)
      have A1k := hid (A1j.out.keptAll hb)
      have A2k := hid (A2j.out.keptAll hb)
      have Bk := hid (Bj.out.trans (hb.mono Bj.out.size))
      clear hb A0j A1j A2j Bj
      refine hK.out _ _ ⟨⟨A0k.out.cell 0, A0k.out.cell 1, A0k.out.cell 2, A0k.out.cell 3, A0k.out.cell 4, A0k.out.cell 5⟩, ⟨A1k.out.cell 0, A1k.out.cell 1, A1k.out.cell 2, A1k.out.cell 3, A1k.out.cell 4, A1k.out.cell 5⟩, ⟨A2k.out.cell 0, A2k.out.cell 1, A2k.out.cell 2, A2k.out.cell 3, A2k.out.cell 4, A2k.out.cell 5⟩⟩ (fun _ => ?_)
      clear hK K
      (refine' wpAnyH_take (i := 4) rfl (by kernel_rfl) (by kernel_rfl) (by kernel_rfl) (fun _ _ _ h => h) (Or.inl ⟨by rfl, ?_⟩) (by assumption) ?_; rotate_left; (· (intro wq hq; (try dsimp only at hq); go_simp; first | done | with_reducible rfl)); simp only [Act.put, List.getElem_toArray, List.getElem_cons_zero, List.getElem_cons_succ, List.setIfInBounds_toArray, List.set_cons_zero, List.set_cons_succ])
      (refine' wpAnyH_take (i := 5) rfl (by kernel_rfl) (by kernel_rfl) (by kernel_rfl) (fun _ _ _ h => h) (Or.inl ⟨by rfl, ?_⟩) (by assumption) ?_; rotate_left; (· (intro wq hq; (try dsimp only at hq); go_simp; first | done | with_reducible rfl)); simp only [Act.put, List.getElem_toArray, List.getElem_cons_zero, List.getElem_cons_succ, List.setIfInBounds_toArray, List.set_cons_zero, List.set_cons_succ])
      (refine' wpAnyH_take (i := 6) rfl (by kernel_rfl) (by kernel_rfl) (by kernel_rfl) (fun _ _ _ h => h) (Or.inl ⟨by rfl, ?_⟩) (by assumption) ?_; rotate_left; (· (intro wq hq; (try dsimp only at hq); go_simp; first | done | with_reducible rfl)); simp only [Act.put, List.getElem_toArray, List.getElem_cons_zero, List.getElem_cons_succ, List.setIfInBounds_toArray, List.set_cons_zero, List.set_cons_succ])
      (refine' wpAnyH_take (i := 7) rfl (by kernel_rfl) (by kernel_rfl) (by kernel_rfl) (fun _ _ _ h => h) (Or.inl ⟨by rfl, ?_⟩) (by assumption) ?_; rotate_left; (· (intro wq hq; (try dsimp only at hq); go_simp; first | done | with_reducible rfl)); simp only [Act.put, List.getElem_toArray, List.getElem_cons_zero, List.getElem_cons_succ, List.setIfInBounds_toArray, List.set_cons_zero, List.set_cons_succ])
      (refine' wpAnyH_take (i := 8) rfl (by kernel_rfl) (by kernel_rfl) (by kernel_rfl) (fun _ _ _ h => h) (Or.inl ⟨by rfl, ?_⟩) (by assumption) ?_; rotate_left; (· (intro wq hq; (try dsimp only at hq); go_simp; first | done | with_reducible rfl)); simp only [Act.put, List.getElem_toArray, List.getElem_cons_zero, List.getElem_cons_succ, List.setIfInBounds_toArray, List.set_cons_zero, List.set_cons_succ])
      (refine' wpAnyH_take (i := 9) rfl (by kernel_rfl) (by kernel_rfl) (by kernel_rfl) (fun _ _ _ h => h) (Or.inl ⟨by rfl, ?_⟩) (by assumption) ?_; rotate_left; (· (intro wq hq; (try dsimp only at hq); go_simp; first | done | with_reducible rfl)); simp only [Act.put, List.getElem_toArray, List.getElem_cons_zero, List.getElem_cons_succ, List.setIfInBounds_toArray, List.set_cons_zero, List.set_cons_succ])
      (refine' wpAnyH_take (i := 10) rfl (by kernel_rfl) (by kernel_rfl) (by kernel_rfl) (fun _ _ _ h => h) (Or.inl ⟨by rfl, ?_⟩) (by assumption) ?_; rotate_left; (· (intro wq hq; (try dsimp only at hq); go_simp; first | done | with_reducible rfl)); simp only [Act.put, List.getElem_toArray, List.getElem_cons_zero, List.getElem_cons_succ, List.setIfInBounds_toArray, List.set_cons_zero, List.set_cons_succ])
      (refine wpAnyH_take (i := 11) (v := undef) rfl (by kernel_rfl) (by kernel_rfl) (by kernel_rfl) (fun _ _ _ h => h) (Or.inr ⟨by rfl, rfl⟩) (by assumption) ?_; simp only [Act.put, List.getElem_toArray, List.getElem_cons_zero, List.getElem_cons_succ, List.setIfInBounds_toArray, List.set_cons_zero, List.set_cons_succ])
      (refine wpAnyH_take (i := 12) (v := undef) rfl (by kernel_rfl) (by kernel_rfl) (by kernel_rfl) (fun _ _ _ h => h) (Or.inr ⟨by rfl, rfl⟩) (by assumption) ?_; simp only [Act.put, List.getElem_toArray, List.getElem_cons_zero, List.getElem_cons_succ, List.setIfInBounds_toArray, List.set_cons_zero, List.set_cons_succ])
      (refine' wpAnyH_take (i := 13) rfl (by kernel_rfl) (by kernel_rfl) (by kernel_rfl) (fun _ _ _ h => h) (Or.inl ⟨by rfl, ?_⟩) (by assumption) ?_; rotate_left; (· (intro wq hq; (try dsimp only at hq); go_simp; first | done | with_reducible rfl)); simp only [Act.put, List.getElem_toArray, List.getElem_cons_zero, List.getElem_cons_succ, List.setIfInBounds_toArray, List.set_cons_zero, List.set_cons_succ])
      (refine' wpAnyH_take (i := 14) rfl (by kernel_rfl) (by kernel_rfl) (by kernel_rfl) (fun _ _ _ h => h) (Or.inl ⟨by rfl, ?_⟩) (by assumption) ?_; rotate_left; (· (intro wq hq; (try dsimp only at hq); go_simp; first | done | with_reducible rfl)); simp only [Act.put, List.getElem_toArray, List.getElem_cons_zero, List.getElem_cons_succ, List.setIfInBounds_toArray, List.set_cons_zero, List.set_cons_succ])
      (refine' wpAnyH_take (i := 15) rfl (by kernel_rfl) (by kernel_rfl) (by kernel_rfl) (fun _ _ _ h => h) (Or.inl ⟨by rfl, ?_⟩) (by assumption) ?_; rotate_left; (· (intro wq hq; (try dsimp only at hq); go_simp; first | done | with_reducible rfl)); simp only [Act.put, List.getElem_toArray, List.getElem_cons_zero, List.getElem_cons_succ, List.setIfInBounds_toArray, List.set_cons_zero, List.set_cons_succ])
      (refine' wpAnyH_take (i := 16) rfl (by kernel_rfl) (by kernel_rfl) (by kernel_rfl) (fun _ _ _ h => h) (Or.inl ⟨by rfl, ?_⟩) (by assumption) ?_; rotate_left; (· (intro wq hq; (try dsimp only at hq); go_simp; first | done | with_reducible rfl)); simp only [Act.put, List.getElem_toArray, List.getElem_cons_zero, List.getElem_cons_succ, List.setIfInBounds_toArray, List.set_cons_zero, List.set_cons_succ])
      (refine' wpAnyH_take (i := 17) rfl (by kernel_rfl) (by kernel_rfl) (by kernel_rfl) (fun _ _ _ h => h) (Or.inl ⟨by rfl, ?_⟩) (by assumption) ?_; rotate_left; (· (intro wq hq; (try dsimp only at hq); go_simp; first | done | with_reducible rfl)); simp only [Act.put, List.getElem_toArray, List.getElem_cons_zero, List.getElem_cons_succ, List.setIfInBounds_toArray, List.set_cons_zero, List.set_cons_succ])
      (refine' wpAnyH_take (i := 19) rfl (by kernel_rfl) (by kernel_rfl) (by kernel_rfl) (fun _ _ _ h => h) (Or.inl ⟨by rfl, ?_⟩) (by assumption) ?_; rotate_left; (· (intro wq hq; (try dsimp only at hq); go_simp; first | done | with_reducible rfl)); simp only [Act.put, List.getElem_toArray, List.getElem_cons_zero, List.getElem_cons_succ, List.setIfInBounds_toArray, List.set_cons_zero, List.set_cons_succ])
      refine wpAnyH_ready (rs := [18]) (by kernel_rfl) (by simp) ?_
      refine AllReadyH.cons rfl (fun K hK => ?_) ?_
      ·rw [if_pos (by rfl)]
       go_simp
       refine Calls.mono (qr.out vk (hT'.out.below Bk.out) (ha0.out.kept Bk.out) (ha0.out.kept Bk.out)) ?_
       rintro e vl ⟨rfl, hb⟩
       have A0l := hid (A0k.out.keptAll hb)
       have A1l := hid (A1k.out.keptAll hb)
       have A2l := hid (A2k.out.keptAll hb)
       have Bl := hid (Bk.out.trans (hb.mono Bk.out.size))
       clear hb A0k A1k A2k Bk
       refine hK.out _ _ ⟨⟨A0l.out.cell 0, A0l.out.cell 1, A0l.out.cell 2, A0l.out.cell 3, A0l.out.cell 4, A0l.out.cell 5⟩, ⟨A1l.out.cell 0, A1l.out.cell 1, A1l.out.cell 2, A1l.out.cell 3, A1l.out.cell 4, A1l.out.cell 5⟩, ⟨A2l.out.cell 0, A2l.out.cell 1, A2l.out.cell 2, A2l.out.cell 3, A2l.out.cell 4, A2l.out.cell 5⟩⟩ (fun _ => ?_)
       clear hK K
       refine wpAnyH_ready (rs := [20]) (by kernel_rfl) (by simp) ?_
       refine AllReadyH.cons rfl (fun K hK => ?_) ?_
       ·rw [if_pos (by rfl)]
        go_simp
        refine Calls.mono (qf.out vl (hT'.out.below Bl.out) (ha0.out.kept Bl.out)) ?_
        rintro e vm ⟨rfl, hb⟩
        have A0m := hid (A0l.out.keptAll hb)
        have A1m := hid (A1l.out.keptAll hb)
        have A2m := hid (A2l.out.keptAll hb)
        have Bm := hid (Bl.out.trans (hb.mono Bl.out.size))
        clear hb A0l A1l A2l Bl
        refine hK.out _ _ ⟨⟨A0m.out.cell 0, A0m.out.cell 1, A0m.out.cell 2, A0m.out.cell 3, A0m.out.cell 4, A0m.out.cell 5⟩, ⟨A1m.out.cell 0, A1m.out.cell 1, A1m.out.cell 2, A1m.out.cell 3, A1m.out.cell 4, A1m.out.cell 5⟩, ⟨A2m.out.cell 0, A2m.out.cell 1, A2m.out.cell 2, A2m.out.cell 3, A2m.out.cell 4, A2m.out.cell 5⟩⟩ (fun _ => ?_)
        clear hK K
        (refine' wpAnyH_take (i := 21) rfl (by kernel_rfl) (by kernel_rfl) (by kernel_rfl) (fun _ _ _ h => h) (Or.inl ⟨by rfl, ?_⟩) (by assumption) ?_; rotate_left; (· (intro wq hq; (try dsimp only at hq); go_simp; first | done | with_reducible rfl)); simp only [Act.put, List.getElem_toArray, List.getElem_cons_zero, List.getElem_cons_succ, List.setIfInBounds_toArray, List.set_cons_zero, List.set_cons_succ])
        (refine' wpAnyH_take (i := 22) rfl (by kernel_rfl) (by kernel_rfl) (by kernel_rfl) (fun _ _ _ h => h) (Or.inl ⟨by rfl, ?_⟩) (by assumption) ?_; rotate_left; (· (intro wq hq; (try dsimp only at hq); go_simp; first | done | with_reducible rfl)); simp only [Act.put, List.getElem_toArray, List.getElem_cons_zero, List.getElem_cons_succ, List.setIfInBounds_toArray, List.set_cons_zero, List.set_cons_succ])
        (refine' wpAnyH_take (i := 23) rfl (by kernel_rfl) (by kernel_rfl) (by kernel_rfl) (fun _ _ _ h => h) (Or.inl ⟨by rfl, ?_⟩) (by assumption) ?_; rotate_left; (· (intro wq hq; (try dsimp only at hq); go_simp; first | done | with_reducible rfl)); simp only [Act.put, List.getElem_toArray, List.getElem_cons_zero, List.getElem_cons_succ, List.setIfInBounds_toArray, List.set_cons_zero, List.set_cons_succ])
        (refine' wpAnyH_take (i := 24) rfl (by kernel_rfl) (by kernel_rfl) (by kernel_rfl) (fun _ _ _ h => h) (Or.inl ⟨by rfl, ?_⟩) (by assumption) ?_; rotate_left; (· (intro wq hq; (try dsimp only at hq); go_simp; first | done | with_reducible rfl)); simp only [Act.put, List.getElem_toArray, List.getElem_cons_zero, List.getElem_cons_succ, List.setIfInBounds_toArray, List.set_cons_zero, List.set_cons_succ])
        (refine' wpAnyH_take (i := 25) rfl (by kernel_rfl) (by kernel_rfl) (by kernel_rfl) (fun _ _ _ h => h) (Or.inl ⟨by rfl, ?_⟩) (by assumption) ?_; rotate_left; (· (intro wq hq; (try dsimp only at hq); go_simp; first | done | with_reducible rfl)); simp only [Act.put, List.getElem_toArray, List.getElem_cons_zero, List.getElem_cons_succ, List.setIfInBounds_toArray, List.set_cons_zero, List.set_cons_succ])
        (refine' wpAnyH_take (i := 27) rfl (by kernel_rfl) (by kernel_rfl) (by kernel_rfl) (fun _ _ _ h => h) (Or.inl ⟨by rfl, ?_⟩) (by assumption) ?_; rotate_left; (· (intro wq hq; (try dsimp only at hq); go_simp; first | done | with_reducible rfl)); simp only [Act.put, List.getElem_toArray, List.getElem_cons_zero, List.getElem_cons_succ, List.setIfInBounds_toArray, List.set_cons_zero, List.set_cons_succ])
        (refine' wpAnyH_take (i := 28) rfl (by kernel_rfl) (by kernel_rfl) (by kernel_rfl) (fun _ _ _ h => h) (Or.inl ⟨by rfl, ?_⟩) (by assumption) ?_; rotate_left; (· (intro wq hq; (try dsimp only at hq); go_simp; first | done | with_reducible rfl)); simp only [Act.put, List.getElem_toArray, List.getElem_cons_zero, List.getElem_cons_succ, List.setIfInBounds_toArray, List.set_cons_zero, List.set_cons_succ])
        refine wpAnyH_ready (rs := [26]) (by kernel_rfl) (by simp) ?_
        refine AllReadyH.cons rfl (fun K hK => ?_) ?_
        ·rw [if_pos (by rfl)]
         go_simp
         refine Calls.mono (qs.out vm (ha0.out.kept Bm.out) (ha1.out.kept Bm.out)) ?_
         rintro e vn ⟨rfl, hb⟩
         have A0n := hid (A0m.out.keptAll hb)
         have A1n := hid (A1m.out.keptAll hb)
         have A2n := hid (A2m.out.keptAll hb)
         have Bn := hid (Bm.out.trans (hb.mono Bm.out.size))
         clear hb A0m A1m A2m Bm
         refine hK.out _ _ ⟨⟨A0n.out.cell 0, A0n.out.cell 1, A0n.out.cell 2, A0n.out.cell 3, A0n.out.cell 4, A0n.out.cell 5⟩, ⟨A1n.out.cell 0, A1n.out.cell 1, A1n.out.cell 2, A1n.out.cell 3, A1n.out.cell 4, A1n.out.cell 5⟩, ⟨A2n.out.cell 0, A2n.out.cell 1, A2n.out.cell 2, A2n.out.cell 3, A2n.out.cell 4, A2n.out.cell 5⟩⟩ (fun _ => ?_)
         clear hK K
         refine wpAnyH_ready (rs := [29]) (by kernel_rfl) (by simp) ?_
         refine AllReadyH.cons rfl (fun K hK => ?_) ?_
         ·rw [if_pos (by rfl)]
          go_simp
          refine Calls.mono (qs2.out vn (ha1.out.kept Bn.out) (ha0.out.kept Bn.out)) ?_
          rintro e vo ⟨rfl, hb⟩
          have A0o := hid (A0n.out.keptAll hb)
          have A1o := hid (A1n.out.keptAll hb)
          have A2o := hid (A2n.out.keptAll hb)
          have Bo := hid (Bn.out.trans (hb.mono Bn.out.size))
          clear hb A0n A1n A2n Bn
          refine hK.out _ _ ⟨⟨A0o.out.cell 0, A0o.out.cell 1, A0o.out.cell 2, A0o.out.cell 3, A0o.out.cell 4, A0o.out.cell 5⟩, ⟨A1o.out.cell 0, A1o.out.cell 1, A1o.out.cell 2, A1o.out.cell 3, A1o.out.cell 4, A1o.out.cell 5⟩, ⟨A2o.out.cell 0, A2o.out.cell 1, A2o.out.cell 2, A2o.out.cell 3, A2o.out.cell 4, A2o.out.cell 5⟩⟩ (fun _ => ?_)
          clear hK K
          (refine' wpAnyH_take (i := 30) rfl (by kernel_rfl) (by kernel_rfl) (by kernel_rfl) (fun _ _ _ h => h) (Or.inl ⟨by rfl, ?_⟩) (by assumption) ?_; rotate_left; (· (intro wq hq; (try dsimp only at hq); go_simp; first | done | with_reducible rfl)); simp only [Act.put, List.getElem_toArray, List.getElem_cons_zero, List.getElem_cons_succ, List.setIfInBounds_toArray, List.set_cons_zero, List.set_cons_succ])
          (refine' wpAnyH_take (i := 31) rfl (by kernel_rfl) (by kernel_rfl) (by kernel_rfl) (fun _ _ _ h => h) (Or.inl ⟨by rfl, ?_⟩) (by assumption) ?_; rotate_left; (· (intro wq hq; (try dsimp only at hq); go_simp; first | done | with_reducible rfl)); simp only [Act.put, List.getElem_toArray, List.getElem_cons_zero, List.getElem_cons_succ, List.setIfInBounds_toArray, List.set_cons_zero, List.set_cons_succ])
          (refine' wpAnyH_take (i := 32) rfl (by kernel_rfl) (by kernel_rfl) (by kernel_rfl) (fun _ _ _ h => h) (Or.inl ⟨by rfl, ?_⟩) (by assumption) ?_; rotate_left; (· (intro wq hq; (try dsimp only at hq); go_simp; first | done | with_reducible rfl)); simp only [Act.put, List.getElem_toArray, List.getElem_cons_zero, List.getElem_cons_succ, List.setIfInBounds_toArray, List.set_cons_zero, List.set_cons_succ])
          (refine' wpAnyH_take (i := 33) rfl (by kernel_rfl) (by kernel_rfl) (by kernel_rfl) (fun _ _ _ h => h) (Or.inl ⟨by rfl, ?_⟩) (by assumption) ?_; rotate_left; (· (intro wq hq; (try dsimp only at hq); go_simp; first | done | with_reducible rfl)); simp only [Act.put, List.getElem_toArray, List.getElem_cons_zero, List.getElem_cons_succ, List.setIfInBounds_toArray, List.set_cons_zero, List.set_cons_succ])
          (refine' wpAnyH_take (i := 34) rfl (by kernel_rfl) (by kernel_rfl) (by kernel_rfl) (fun _ _ _ h => h) (Or.inl ⟨by rfl, ?_⟩) (by assumption) ?_; rotate_left; (· (intro wq hq; (try dsimp only at hq); go_simp; first | done | with_reducible rfl)); simp only [Act.put, List.getElem_toArray, List.getElem_cons_zero, List.getElem_cons_succ, List.setIfInBounds_toArray, List.set_cons_zero, List.set_cons_succ])
          refine wpAnyH_ready (rs := [35]) (by kernel_rfl) (by simp) ?_
          refine AllReadyH.cons rfl (fun K hK => ?_) ?_
          ·rw [if_pos (by rfl)]
           go_simp
           refine Calls.mono (qs3.out vo (ha0.out.kept Bo.out) (ha0.out.kept Bo.out)) ?_
           rintro e vq ⟨rfl, hb⟩
           have A0q := hid (A0o.out.keptAll hb)
           have A1q := hid (A1o.out.keptAll hb)
           have A2q := hid (A2o.out.keptAll hb)
           have Bq := hid (Bo.out.trans (hb.mono Bo.out.size))
           clear hb A0o A1o A2o Bo
           refine hK.out _ _ ⟨⟨A0q.out.cell 0, A0q.out.cell 1, A0q.out.cell 2, A0q.out.cell 3, A0q.out.cell 4, A0q.out.cell 5⟩, ⟨A1q.out.cell 0, A1q.out.cell 1, A1q.out.cell 2, A1q.out.cell 3, A1q.out.cell 4, A1q.out.cell 5⟩, ⟨A2q.out.cell 0, A2q.out.cell 1, A2q.out.cell 2, A2q.out.cell 3, A2q.out.cell 4, A2q.out.cell 5⟩⟩ (fun _ => ?_)
           clear hK K
           (refine' wpAnyH_take (i := 36) rfl (by kernel_rfl) (by kernel_rfl) (by kernel_rfl) (fun _ _ _ h => h) (Or.inl ⟨by rfl, ?_⟩) (by assumption) ?_; rotate_left; (· (intro wq hq; (try dsimp only at hq); go_simp; first | done | with_reducible rfl)); simp only [Act.put, List.getElem_toArray, List.getElem_cons_zero, List.getElem_cons_succ, List.setIfInBounds_toArray, List.set_cons_zero, List.set_cons_succ])
           (refine' wpAnyH_take (i := 37) rfl (by kernel_rfl) (by kernel_rfl) (by kernel_rfl) (fun _ _ _ h => h) (Or.inl ⟨by rfl, ?_⟩) (by assumption) ?_; rotate_left; (· (intro wq hq; (try dsimp only at hq); go_simp; first | done | with_reducible rfl)); simp only [Act.put, List.getElem_toArray, List.getElem_cons_zero, List.getElem_cons_succ, List.setIfInBounds_toArray, List.set_cons_zero, List.set_cons_succ])
           refine wpAnyH_done (by kernel_rfl) ?_ _
           clear hx0
           have c0 := A0q.out.cell 0
           have c1 := A0q.out.cell 1
           have c2 := A0q.out.cell 2
           have c3 := A0q.out.cell 3
           have c4 := A0q.out.cell 4
           have c5 := A0q.out.cell 5
           simp only [List.getElem?_toArray, List.getElem?_cons_zero, List.getElem?_cons_succ] at c0 c1 c2 c3 c4 c5
           go_wp2_with fail
           refine Calls.mono (qf.out vq (hT'.out.below Bq.out) (ha0.out.kept Bq.out)) ?_
           rintro e vr ⟨rfl, hb⟩
           clear c0 c1 c2 c3 c4 c5
           have A0r := hid (A0q.out.keptAll hb)
           have A1r := hid (A1q.out.keptAll hb)
           have A2r := hid (A2q.out.keptAll hb)
           have Br := hid (Bq.out.trans (hb.mono Bq.out.size))
           clear hb A0q A1q A2q Bq
           have d0 := A1r.out.cell 0
           have d1 := A1r.out.cell 1
           have d2 := A1r.out.cell 2
           have d3 := A1r.out.cell 3
           have d4 := A1r.out.cell 4
           have d5 := A1r.out.cell 5
           simp only [List.getElem?_toArray, List.getElem?_cons_zero, List.getElem?_cons_succ] at d0 d1 d2 d3 d4 d5
           go_wp2_with fail
           refine Calls.mono (qf2.out vr (hT'.out.below Br.out) (ha1.out.kept Br.out)) ?_
           rintro e vs ⟨rfl, hb⟩
           clear d0 d1 d2 d3 d4 d5
           have A0s := hid (A0r.out.keptAll hb)
           have A1s := hid (A1r.out.keptAll hb)
           have A2s := hid (A2r.out.keptAll hb)
           have Bs := hid (Br.out.trans (hb.mono Br.out.size))
           clear hb A0r A1r A2r Br
           have c0 := A0s.out.cell 0
           have c1 := A0s.out.cell 1
           have c2 := A0s.out.cell 2
           have c3 := A0s.out.cell 3
           have c4 := A0s.out.cell 4
           have c5 := A0s.out.cell 5
           simp only [List.getElem?_toArray, List.getElem?_cons_zero, List.getElem?_cons_succ] at c0 c1 c2 c3 c4 c5
           have d0 := A1s.out.cell 0
           have d1 := A1s.out.cell 1
           have d2 := A1s.out.cell 2
           have d3 := A1s.out.cell 3
           have d4 := A1s.out.cell 4
           have d5 := A1s.out.cell 5
           simp only [List.getElem?_toArray, List.getElem?_cons_zero, List.getElem?_cons_succ] at d0 d1 d2 d3 d4 d5
           go_wp2_with fail
           refine Calls.mono (qs.out vs (ha0.out.kept Bs.out) (ha1.out.kept Bs.out)) ?_
           rintro e vt ⟨rfl, hb⟩
           clear c0 c1 c2 c3 c4 c5 d0 d1 d2 d3 d4 d5
           have A0t := hid (A0s.out.keptAll hb)
           have A1t := hid (A1s.out.keptAll hb)
           have A2t := hid (A2s.out.keptAll hb)
           have Bt := hid (Bs.out.trans (hb.mono Bs.out.size))
           clear hb A0s A1s A2s Bs
           cases S with
           | false =>
            go_wp2
            go_ret
            exact ⟨rfl, Bt.out⟩
           | true =>
            have c0 := A0t.out.cell 0
            have c1 := A0t.out.cell 1
            have c2 := A0t.out.cell 2
            have c3 := A0t.out.cell 3
            have c4 := A0t.out.cell 4
            have c5 := A0t.out.cell 5
            simp only [List.getElem?_toArray, List.getElem?_cons_zero, List.getElem?_cons_succ] at c0 c1 c2 c3 c4 c5
            go_wp2_with fail
            refine Calls.mono (qf.out vt (hT'.out.below Bt.out) (ha0.out.kept Bt.out)) ?_
            rintro e vu ⟨rfl, hb⟩
            clear c0 c1 c2 c3 c4 c5
            have A0u := hid (A0t.out.keptAll hb)
            have A1u := hid (A1t.out.keptAll hb)
            have A2u := hid (A2t.out.keptAll hb)
            have Bu := hid (Bt.out.trans (hb.mono Bt.out.size))
            clear hb A0t A1t A2t Bt
            go_wp2
            go_ret
            exact ⟨rfl, Bu.out⟩
          exact AllReadyH.nil
         exact AllReadyH.nil
        exact AllReadyH.nil
       exact AllReadyH.nil
      exact AllReadyH.nil
     exact AllReadyH.nil
    | d =>
     go_upto_region 6 with fail
     have hx0 : (vi.drew.cell? ⟨p, 0, none⟩ = some (.int .i64 k0) ∧ vi.drew.cell? ⟨p, 1, none⟩ = some (.bool b0) ∧ vi.drew.cell? ⟨p, 2, none⟩ = some (.string r0) ∧ vi.drew.cell? ⟨p, 3, none⟩ = some (.string t0) ∧ vi.drew.cell? ⟨p, 4, none⟩ = some (.slice ko0 N0 kc0) ∧ vi.drew.cell? ⟨p, 5, none⟩ = some (.slice vo0 M0 vc0)) ∧ (vi.drew.cell? ⟨p + 1, 0, none⟩ = some (.int .i64 k1) ∧ vi.drew.cell? ⟨p + 1, 1, none⟩ = some (.bool b1) ∧ vi.drew.cell? ⟨p + 1, 2, none⟩ = some (.string r1) ∧ vi.drew.cell? ⟨p + 1, 3, none⟩ = some (.string t1) ∧ vi.drew.cell? ⟨p + 1, 4, none⟩ = some (.slice ko1 N1 kc1) ∧ vi.drew.cell? ⟨p + 1, 5, none⟩ = some (.slice vo1 M1 vc1)) ∧ (vi.drew.cell? ⟨p + 2, 0, none⟩ = some (.int .i64 k2) ∧ vi.drew.cell? ⟨p + 2, 1, none⟩ = some (.bool b2) ∧ vi.drew.cell? ⟨p + 2, 2, none⟩ = some (.string r2) ∧ vi.drew.cell? ⟨p + 2, 3, none⟩ = some (.string t2) ∧ vi.drew.cell? ⟨p + 2, 4, none⟩ = some (.slice ko2 N2 kc2) ∧ vi.drew.cell? ⟨p + 2, 5, none⟩ = some (.slice vo2 M2 vc2)) := ⟨⟨A0i.out.cell 0, A0i.out.cell 1, A0i.out.cell 2, A0i.out.cell 3, A0i.out.cell 4, A0i.out.cell 5⟩, ⟨A1i.out.cell 0, A1i.out.cell 1, A1i.out.cell 2, A1i.out.cell 3, A1i.out.cell 4, A1i.out.cell 5⟩, ⟨A2i.out.cell 0, A2i.out.cell 1, A2i.out.cell 2, A2i.out.cell 3, A2i.out.cell 4, A2i.out.cell 5⟩⟩
     have q0 := show Below vi.heap.size vi vi.drew from (Below.refl _ _).drew
     have A0j := hid (A0i.out.keptAll q0)
     have A1j := hid (A1i.out.keptAll q0)
     have A2j := hid (A2i.out.keptAll q0)
     have Bj := hid (Bi.out.trans (q0.mono Bi.out.size))
     clear q0 A0i A1i A2i Bi
     refine wp_region_held_drew (S := fun w' => (w'.cell? ⟨p, 0, none⟩ = some (.int .i64 k0) ∧ w'.cell? ⟨p, 1, none⟩ = some (.bool b0) ∧ w'.cell? ⟨p, 2, none⟩ = some (.string r0) ∧ w'.cell? ⟨p, 3, none⟩ = some (.string t0) ∧ w'.cell? ⟨p, 4, none⟩ = some (.slice ko0 N0 kc0) ∧ w'.cell? ⟨p, 5, none⟩ = some (.slice vo0 M0 vc0)) ∧ (w'.cell? ⟨p + 1, 0, none⟩ = some (.int .i64 k1) ∧ w'.cell? ⟨p + 1, 1, none⟩ = some (.bool b1) ∧ w'.cell? ⟨p + 1, 2, none⟩ = some (.string r1) ∧ w'.cell? ⟨p + 1, 3, none⟩ = some (.string t1) ∧ w'.cell? ⟨p + 1, 4, none⟩ = some (.slice ko1 N1 kc1) ∧ w'.cell? ⟨p + 1, 5, none⟩ = some (.slice vo1 M1 vc1)) ∧ (w'.cell? ⟨p + 2, 0, none⟩ = some (.int .i64 k2) ∧ w'.cell? ⟨p + 2, 1, none⟩ = some (.bool b2) ∧ w'.cell? ⟨p + 2, 2, none⟩ = some (.string r2) ∧ w'.cell? ⟨p + 2, 3, none⟩ = some (.string t2) ∧ w'.cell? ⟨p + 2, 4, none⟩ = some (.slice ko2 N2 kc2) ∧ w'.cell? ⟨p + 2, 5, none⟩ = some (.slice vo2 M2 vc2))) (by kernel_rfl) hx0 (fun hHeld => ?_)
     clear hHeld
     generalize vi.drew = vj at *
     (refine' wpAnyH_take (i := 0) rfl (by kernel_rfl) (by kernel_rfl) (by kernel_rfl) (fun _ _ _ h => h) (Or.inl ⟨by rfl, ?_⟩) (by assumption) ?_; rotate_left; (· (intro wq hq; (try dsimp only at hq); go_simp; first | done | with_reducible rfl)); simp only [Act.put, List.getElem_toArray, List.getElem_cons_zero, List.setIfInBounds_toArray, List.set_cons_zero, List.set_cons_succ])
     (refine' wpAnyH_take (i := 1) rfl (by kernel_rfl) (by kernel_rfl) (by kernel_rfl) (fun _ _ _ h => h) (Or.inl ⟨by rfl, ?_⟩) (by assumption) ?_; rotate_left; (· (intro wq hq; (try dsimp only at hq); go_simp; first | done | with_reducible rfl)); simp only [Act.put, List.getElem_toArray, List.getElem_cons_zero, List.getElem_cons_succ, List.setIfInBounds_toArray, List.set_cons_zero, List.set_cons_succ])
     (refine' wpAnyH_take (i := 2) rfl (by kernel_rfl) (by kernel_rfl) (by kernel_rfl) (fun _ _ _ h => h) (Or.inl ⟨by rfl, ?_⟩) (by assumption) ?_; rotate_left; (· (intro wq hq; (try dsimp only at hq); go_simp; first | done | with_reducible rfl)); simp only [Act.put, List.getElem_toArray, List.getElem_cons_zero, List.getElem_cons_succ, List.setIfInBounds_toArray, List.set_cons_zero, List.set_cons_succ])
     refine wpAnyH_ready (rs := [3]) (by kernel_rfl) (by simp) ?_
     refine AllReadyH.cons rfl (fun K hK => ?_) ?_
     ·rw [if_pos (by rfl)]
      go_simp
      refine Calls.mono (qxs'.out vj (hT'.out.below Bj.out) (ha1.out.kept Bj.out) (ha0.out.kept Bj.out)) ?_
      rintro e vk ⟨rfl, hb⟩
      have A0k := hid (A0j.out.keptAll hb)
      have A1k := hid (A1j.out.keptAll hb)
      have A2k := hid (A2j.out.keptAll hb)
      have Bk := hid (Bj.out.trans (hb.mono Bj.out.size))
      clear hb A0j A1j A2j Bj
      refine hK.out _ _ ⟨⟨A0k.out.cell 0, A0k.out.cell 1, A0k.out.cell 2, A0k.out.cell 3, A0k.out.cell 4, A0k.out.cell 5⟩, ⟨A1k.out.cell 0, A1k.out.cell 1, A1k.out.cell 2, A1k.out.cell 3, A1k.out.cell 4, A1k.out.cell 5⟩, ⟨A2k.out.cell 0, A2k.out.cell 1, A2k.out.cell 2, A2k.out.cell 3, A2k.out.cell 4, A2k.out.cell 5⟩⟩ (fun _ => ?_)
      clear hK K
      (refine' wpAnyH_take (i := 4) rfl (by kernel_rfl) (by kernel_rfl) (by kernel_rfl) (fun _ _ _ h => h) (Or.inl ⟨by rfl, ?_⟩) (by assumption) ?_; rotate_left; (· (intro wq hq; (try dsimp only at hq); go_simp; first | done | with_reducible rfl)); simp only [Act.put, List.getElem_toArray, List.getElem_cons_zero, List.getElem_cons_succ, List.setIfInBounds_toArray, List.set_cons_zero, List.set_cons_succ])
      (refine' wpAnyH_take (i := 5) rfl (by kernel_rfl) (by kernel_rfl) (by kernel_rfl) (fun _ _ _ h => h) (Or.inl ⟨by rfl, ?_⟩) (by assumption) ?_; rotate_left; (· (intro wq hq; (try dsimp only at hq); go_simp; first | done | with_reducible rfl)); simp only [Act.put, List.getElem_toArray, List.getElem_cons_zero, List.getElem_cons_succ, List.setIfInBounds_toArray, List.set_cons_zero, List.set_cons_succ])
      (refine' wpAnyH_take (i := 6) rfl (by kernel_rfl) (by kernel_rfl) (by kernel_rfl) (fun _ _ _ h => h) (Or.inl ⟨by rfl, ?_⟩) (by assumption) ?_; rotate_left; (· (intro wq hq; (try dsimp only at hq); go_simp; first | done | with_reducible rfl)); simp only [Act.put, List.getElem_toArray, List.getElem_cons_zero, List.getElem_cons_succ, List.setIfInBounds_toArray, List.set_cons_zero, List.set_cons_succ])
      (refine' wpAnyH_take (i := 7) rfl (by kernel_rfl) (by kernel_rfl) (by kernel_rfl) (fun _ _ _ h => h) (Or.inl ⟨by rfl, ?_⟩) (by assumption) ?_; rotate_left; (· (intro wq hq; (try dsimp only at hq); go_simp; first | done | with_reducible rfl)); simp only [Act.put, List.getElem_toArray, List.getElem_cons_zero, List.getElem_cons_succ, List.setIfInBounds_toArray, List.set_cons_zero, List.set_cons_succ])
      (refine' wpAnyH_take (i := 8) rfl (by kernel_rfl) (by kernel_rfl) (by kernel_rfl) (fun _ _ _ h => h) (Or.inl ⟨by rfl, ?_⟩) (by assumption) ?_; rotate_left; (· (intro wq hq; (try dsimp only at hq); go_simp; first | done | with_reducible rfl)); simp only [Act.put, List.getElem_toArray, List.getElem_cons_zero, List.getElem_cons_succ, List.setIfInBounds_toArray, List.set_cons_zero, List.set_cons_succ])
      (refine' wpAnyH_take (i := 9) rfl (by kernel_rfl) (by kernel_rfl) (by kernel_rfl) (fun _ _ _ h => h) (Or.inl ⟨by rfl, ?_⟩) (by assumption) ?_; rotate_left; (· (intro wq hq; (try dsimp only at hq); go_simp; first | done | with_reducible rfl)); simp only [Act.put, List.getElem_toArray, List.getElem_cons_zero, List.getElem_cons_succ, List.setIfInBounds_toArray, List.set_cons_zero, List.set_cons_succ])
      (refine' wpAnyH_take (i := 10) rfl (by kernel_rfl) (by kernel_rfl) (by kernel_rfl) (fun _ _ _ h => h) (Or.inl ⟨by rfl, ?_⟩) (by assumption) ?_; rotate_left; (· (intro wq hq; (try dsimp only at hq); go_simp; first | done | with_reducible rfl)); simp only [Act.put, List.getElem_toArray, List.getElem_cons_zero, List.getElem_cons_succ, List.setIfInBounds_toArray, List.set_cons_zero, List.set_cons_succ])
      (refine' wpAnyH_take (i := 11) rfl (by kernel_rfl) (by kernel_rfl) (by kernel_rfl) (fun _ _ _ h => h) (Or.inl ⟨by rfl, ?_⟩) (by assumption) ?_; rotate_left; (· (intro wq hq; (try dsimp only at hq); go_simp; first | done | with_reducible rfl)); simp only [Act.put, List.getElem_toArray, List.getElem_cons_zero, List.getElem_cons_succ, List.setIfInBounds_toArray, List.set_cons_zero, List.set_cons_succ])
      (refine' wpAnyH_take (i := 12) rfl (by kernel_rfl) (by kernel_rfl) (by kernel_rfl) (fun _ _ _ h => h) (Or.inl ⟨by rfl, ?_⟩) (by assumption) ?_; rotate_left; (· (intro wq hq; (try dsimp only at hq); go_simp; first | done | with_reducible rfl)); simp only [Act.put, List.getElem_toArray, List.getElem_cons_zero, List.getElem_cons_succ, List.setIfInBounds_toArray, List.set_cons_zero, List.set_cons_succ])
      (refine' wpAnyH_take (i := 13) rfl (by kernel_rfl) (by kernel_rfl) (by kernel_rfl) (fun _ _ _ h => h) (Or.inl ⟨by rfl, ?_⟩) (by assumption) ?_; rotate_left; (· (intro wq hq; (try dsimp only at hq); go_simp; first | done | with_reducible rfl)); simp only [Act.put, List.getElem_toArray, List.getElem_cons_zero, List.getElem_cons_succ, List.setIfInBounds_toArray, List.set_cons_zero, List.set_cons_succ])
      (refine' wpAnyH_take (i := 14) rfl (by kernel_rfl) (by kernel_rfl) (by kernel_rfl) (fun _ _ _ h => h) (Or.inl ⟨by rfl, ?_⟩) (by assumption) ?_; rotate_left; (· (intro wq hq; (try dsimp only at hq); go_simp; first | done | with_reducible rfl)); simp only [Act.put, List.getElem_toArray, List.getElem_cons_zero, List.getElem_cons_succ, List.setIfInBounds_toArray, List.set_cons_zero, List.set_cons_succ])
      (refine' wpAnyH_take (i := 15) rfl (by kernel_rfl) (by kernel_rfl) (by kernel_rfl) (fun _ _ _ h => h) (Or.inl ⟨by rfl, ?_⟩) (by assumption) ?_; rotate_left; (· (intro wq hq; (try dsimp only at hq); go_simp; first | done | with_reducible rfl)); simp only [Act.put, List.getElem_toArray, List.getElem_cons_zero, List.getElem_cons_succ, List.setIfInBounds_toArray, List.set_cons_zero, List.set_cons_succ])
      (refine' wpAnyH_take (i := 16) rfl (by kernel_rfl) (by kernel_rfl) (by kernel_rfl) (fun _ _ _ h => h) (Or.inl ⟨by rfl, ?_⟩) (by assumption) ?_; rotate_left; (· (intro wq hq; (try dsimp only at hq); go_simp; first | done | with_reducible rfl)); simp only [Act.put, List.getElem_toArray, List.getElem_cons_zero, List.getElem_cons_succ, List.setIfInBounds_toArray, List.set_cons_zero, List.set_cons_succ])
      (refine' wpAnyH_take (i := 17) rfl (by kernel_rfl) (by kernel_rfl) (by kernel_rfl) (fun _ _ _ h => h) (Or.inl ⟨by rfl, ?_⟩) (by assumption) ?_; rotate_left; (· (intro wq hq; (try dsimp only at hq); go_simp; first | done | with_reducible rfl)); simp only [Act.put, List.getElem_toArray, List.getElem_cons_zero, List.getElem_cons_succ, List.setIfInBounds_toArray, List.set_cons_zero, List.set_cons_succ])
      (refine' wpAnyH_take (i := 19) rfl (by kernel_rfl) (by kernel_rfl) (by kernel_rfl) (fun _ _ _ h => h) (Or.inl ⟨by rfl, ?_⟩) (by assumption) ?_; rotate_left; (· (intro wq hq; (try dsimp only at hq); go_simp; first | done | with_reducible rfl)); simp only [Act.put, List.getElem_toArray, List.getElem_cons_zero, List.getElem_cons_succ, List.setIfInBounds_toArray, List.set_cons_zero, List.set_cons_succ])
      refine wpAnyH_ready (rs := [18]) (by kernel_rfl) (by simp) ?_
      refine AllReadyH.cons rfl (fun K hK => ?_) ?_
      ·rw [if_pos (by rfl)]
       go_simp
       refine Calls.mono (qr.out vk (hT'.out.below Bk.out) (ha0.out.kept Bk.out) (ha0.out.kept Bk.out)) ?_
       rintro e vl ⟨rfl, hb⟩
       have A0l := hid (A0k.out.keptAll hb)
       have A1l := hid (A1k.out.keptAll hb)
       have A2l := hid (A2k.out.keptAll hb)
       have Bl := hid (Bk.out.trans (hb.mono Bk.out.size))
       clear hb A0k A1k A2k Bk
       refine hK.out _ _ ⟨⟨A0l.out.cell 0, A0l.out.cell 1, A0l.out.cell 2, A0l.out.cell 3, A0l.out.cell 4, A0l.out.cell 5⟩, ⟨A1l.out.cell 0, A1l.out.cell 1, A1l.out.cell 2, A1l.out.cell 3, A1l.out.cell 4, A1l.out.cell 5⟩, ⟨A2l.out.cell 0, A2l.out.cell 1, A2l.out.cell 2, A2l.out.cell 3, A2l.out.cell 4, A2l.out.cell 5⟩⟩ (fun _ => ?_)
       clear hK K
       refine wpAnyH_ready (rs := [20]) (by kernel_rfl) (by simp) ?_
       refine AllReadyH.cons rfl (fun K hK => ?_) ?_
       ·rw [if_pos (by rfl)]
        go_simp
        refine Calls.mono (qf.out vl (hT'.out.below Bl.out) (ha0.out.kept Bl.out)) ?_
        rintro e vm ⟨rfl, hb⟩
        have A0m := hid (A0l.out.keptAll hb)
        have A1m := hid (A1l.out.keptAll hb)
        have A2m := hid (A2l.out.keptAll hb)
        have Bm := hid (Bl.out.trans (hb.mono Bl.out.size))
        clear hb A0l A1l A2l Bl
        refine hK.out _ _ ⟨⟨A0m.out.cell 0, A0m.out.cell 1, A0m.out.cell 2, A0m.out.cell 3, A0m.out.cell 4, A0m.out.cell 5⟩, ⟨A1m.out.cell 0, A1m.out.cell 1, A1m.out.cell 2, A1m.out.cell 3, A1m.out.cell 4, A1m.out.cell 5⟩, ⟨A2m.out.cell 0, A2m.out.cell 1, A2m.out.cell 2, A2m.out.cell 3, A2m.out.cell 4, A2m.out.cell 5⟩⟩ (fun _ => ?_)
        clear hK K
        (refine' wpAnyH_take (i := 21) rfl (by kernel_rfl) (by kernel_rfl) (by kernel_rfl) (fun _ _ _ h => h) (Or.inl ⟨by rfl, ?_⟩) (by assumption) ?_; rotate_left; (· (intro wq hq; (try dsimp only at hq); go_simp; first | done | with_reducible rfl)); simp only [Act.put, List.getElem_toArray, List.getElem_cons_zero, List.getElem_cons_succ, List.setIfInBounds_toArray, List.set_cons_zero, List.set_cons_succ])
        (refine' wpAnyH_take (i := 22) rfl (by kernel_rfl) (by kernel_rfl) (by kernel_rfl) (fun _ _ _ h => h) (Or.inl ⟨by rfl, ?_⟩) (by assumption) ?_; rotate_left; (· (intro wq hq; (try dsimp only at hq); go_simp; first | done | with_reducible rfl)); simp only [Act.put, List.getElem_toArray, List.getElem_cons_zero, List.getElem_cons_succ, List.setIfInBounds_toArray, List.set_cons_zero, List.set_cons_succ])
        (refine' wpAnyH_take (i := 23) rfl (by kernel_rfl) (by kernel_rfl) (by kernel_rfl) (fun _ _ _ h => h) (Or.inl ⟨by rfl, ?_⟩) (by assumption) ?_; rotate_left; (· (intro wq hq; (try dsimp only at hq); go_simp; first | done | with_reducible rfl)); simp only [Act.put, List.getElem_toArray, List.getElem_cons_zero, List.getElem_cons_succ, List.setIfInBounds_toArray, List.set_cons_zero, List.set_cons_succ])
        (refine' wpAnyH_take (i := 24) rfl (by kernel_rfl) (by kernel_rfl) (by kernel_rfl) (fun _ _ _ h => h) (Or.inl ⟨by rfl, ?_⟩) (by assumption) ?_; rotate_left; (· (intro wq hq; (try dsimp only at hq); go_simp; first | done | with_reducible rfl)); simp only [Act.put, List.getElem_toArray, List.getElem_cons_zero, List.getElem_cons_succ, List.setIfInBounds_toArray, List.set_cons_zero, List.set_cons_succ])
        (refine' wpAnyH_take (i := 25) rfl (by kernel_rfl) (by kernel_rfl) (by kernel_rfl) (fun _ _ _ h => h) (Or.inl ⟨by rfl, ?_⟩) (by assumption) ?_; rotate_left; (· (intro wq hq; (try dsimp only at hq); go_simp; first | done | with_reducible rfl)); simp only [Act.put, List.getElem_toArray, List.getElem_cons_zero, List.getElem_cons_succ, List.setIfInBounds_toArray, List.set_cons_zero, List.set_cons_succ])
        (refine' wpAnyH_take (i := 27) rfl (by kernel_rfl) (by kernel_rfl) (by kernel_rfl) (fun _ _ _ h => h) (Or.inl ⟨by rfl, ?_⟩) (by assumption) ?_; rotate_left; (· (intro wq hq; (try dsimp only at hq); go_simp; first | done | with_reducible rfl)); simp only [Act.put, List.getElem_toArray, List.getElem_cons_zero, List.getElem_cons_succ, List.setIfInBounds_toArray, List.set_cons_zero, List.set_cons_succ])
        (refine' wpAnyH_take (i := 28) rfl (by kernel_rfl) (by kernel_rfl) (by kernel_rfl) (fun _ _ _ h => h) (Or.inl ⟨by rfl, ?_⟩) (by assumption) ?_; rotate_left; (· (intro wq hq; (try dsimp only at hq); go_simp; first | done | with_reducible rfl)); simp only [Act.put, List.getElem_toArray, List.getElem_cons_zero, List.getElem_cons_succ, List.setIfInBounds_toArray, List.set_cons_zero, List.set_cons_succ])
        refine wpAnyH_ready (rs := [26]) (by kernel_rfl) (by simp) ?_
        refine AllReadyH.cons rfl (fun K hK => ?_) ?_
        ·rw [if_pos (by rfl)]
         go_simp
         refine Calls.mono (qs.out vm (ha0.out.kept Bm.out) (ha1.out.kept Bm.out)) ?_
         rintro e vn ⟨rfl, hb⟩
         have A0n := hid (A0m.out.keptAll hb)
         have A1n := hid (A1m.out.keptAll hb)
         have A2n := hid (A2m.out.keptAll hb)
         have Bn := hid (Bm.out.trans (hb.mono Bm.out.size))
         clear hb A0m A1m A2m Bm
         refine hK.out _ _ ⟨⟨A0n.out.cell 0, A0n.out.cell 1, A0n.out.cell 2, A0n.out.cell 3, A0n.out.cell 4, A0n.out.cell 5⟩, ⟨A1n.out.cell 0, A1n.out.cell 1, A1n.out.cell 2, A1n.out.cell 3, A1n.out.cell 4, A1n.out.cell 5⟩, ⟨A2n.out.cell 0, A2n.out.cell 1, A2n.out.cell 2, A2n.out.cell 3, A2n.out.cell 4, A2n.out.cell 5⟩⟩ (fun _ => ?_)
         clear hK K
         refine wpAnyH_ready (rs := [29]) (by kernel_rfl) (by simp) ?_
         refine AllReadyH.cons rfl (fun K hK => ?_) ?_
         ·rw [if_pos (by rfl)]
          go_simp
          refine Calls.mono (qs2.out vn (ha1.out.kept Bn.out) (ha0.out.kept Bn.out)) ?_
          rintro e vo ⟨rfl, hb⟩
          have A0o := hid (A0n.out.keptAll hb)
          have A1o := hid (A1n.out.keptAll hb)
          have A2o := hid (A2n.out.keptAll hb)
          have Bo := hid (Bn.out.trans (hb.mono Bn.out.size))
          clear hb A0n A1n A2n Bn
          refine hK.out _ _ ⟨⟨A0o.out.cell 0, A0o.out.cell 1, A0o.out.cell 2, A0o.out.cell 3, A0o.out.cell 4, A0o.out.cell 5⟩, ⟨A1o.out.cell 0, A1o.out.cell 1, A1o.out.cell 2, A1o.out.cell 3, A1o.out.cell 4, A1o.out.cell 5⟩, ⟨A2o.out.cell 0, A2o.out.cell 1, A2o.out.cell 2, A2o.out.cell 3, A2o.out.cell 4, A2o.out.cell 5⟩⟩ (fun _ => ?_)
          clear hK K
          (refine' wpAnyH_take (i := 30) rfl (by kernel_rfl) (by kernel_rfl) (by kernel_rfl) (fun _ _ _ h => h) (Or.inl ⟨by rfl, ?_⟩) (by assumption) ?_; rotate_left; (· (intro wq hq; (try dsimp only at hq); go_simp; first | done | with_reducible rfl)); simp only [Act.put, List.getElem_toArray, List.getElem_cons_zero, List.getElem_cons_succ, List.setIfInBounds_toArray, List.set_cons_zero, List.set_cons_succ])
          (refine' wpAnyH_take (i := 31) rfl (by kernel_rfl) (by kernel_rfl) (by kernel_rfl) (fun _ _ _ h => h) (Or.inl ⟨by rfl, ?_⟩) (by assumption) ?_; rotate_left; (· (intro wq hq; (try dsimp only at hq); go_simp; first | done | with_reducible rfl)); simp only [Act.put, List.getElem_toArray, List.getElem_cons_zero, List.getElem_cons_succ, List.setIfInBounds_toArray, List.set_cons_zero, List.set_cons_succ])
          (refine' wpAnyH_take (i := 32) rfl (by kernel_rfl) (by kernel_rfl) (by kernel_rfl) (fun _ _ _ h => h) (Or.inl ⟨by rfl, ?_⟩) (by assumption) ?_; rotate_left; (· (intro wq hq; (try dsimp only at hq); go_simp; first | done | with_reducible rfl)); simp only [Act.put, List.getElem_toArray, List.getElem_cons_zero, List.getElem_cons_succ, List.setIfInBounds_toArray, List.set_cons_zero, List.set_cons_succ])
          (refine' wpAnyH_take (i := 33) rfl (by kernel_rfl) (by kernel_rfl) (by kernel_rfl) (fun _ _ _ h => h) (Or.inl ⟨by rfl, ?_⟩) (by assumption) ?_; rotate_left; (· (intro wq hq; (try dsimp only at hq); go_simp; first | done | with_reducible rfl)); simp only [Act.put, List.getElem_toArray, List.getElem_cons_zero, List.getElem_cons_succ, List.setIfInBounds_toArray, List.set_cons_zero, List.set_cons_succ])
          (refine' wpAnyH_take (i := 34) rfl (by kernel_rfl) (by kernel_rfl) (by kernel_rfl) (fun _ _ _ h => h) (Or.inl ⟨by rfl, ?_⟩) (by assumption) ?_; rotate_left; (· (intro wq hq; (try dsimp only at hq); go_simp; first | done | with_reducible rfl)); simp only [Act.put, List.getElem_toArray, List.getElem_cons_zero, List.getElem_cons_succ, List.setIfInBounds_toArray, List.set_cons_zero, List.set_cons_succ])
          refine wpAnyH_ready (rs := [35]) (by kernel_rfl) (by simp) ?_
          refine AllReadyH.cons rfl (fun K hK => ?_) ?_
          ·rw [if_pos (by rfl)]
           go_simp
           refine Calls.mono (qs3.out vo (ha0.out.kept Bo.out) (ha0.out.kept Bo.out)) ?_
           rintro e vq ⟨rfl, hb⟩
           have A0q := hid (A0o.out.keptAll hb)
           have A1q := hid (A1o.out.keptAll hb)
           have A2q := hid (A2o.out.keptAll hb)
           have Bq := hid (Bo.out.trans (hb.mono Bo.out.size))
           clear hb A0o A1o A2o Bo
           refine hK.out _ _ ⟨⟨A0q.out.cell 0, A0q.out.cell 1, A0q.out.cell 2, A0q.out.cell 3, A0q.out.cell 4, A0q.out.cell 5⟩, ⟨A1q.out.cell 0, A1q.out.cell 1, A1q.out.cell 2, A1q.out.cell 3, A1q.out.cell 4, A1q.out.cell 5⟩, ⟨A2q.out.cell 0, A2q.out.cell 1, A2q.out.cell 2, A2q.out.cell 3, A2q.out.cell 4, A2q.out.cell 5⟩⟩ (fun _ => ?_)
           clear hK K
           (refine' wpAnyH_take (i := 36) rfl (by kernel_rfl) (by kernel_rfl) (by kernel_rfl) (fun _ _ _ h => h) (Or.inl ⟨by rfl, ?_⟩) (by assumption) ?_; rotate_left; (· (intro wq hq; (try dsimp only at hq); go_simp; first | done | with_reducible rfl)); simp only [Act.put, List.getElem_toArray, List.getElem_cons_zero, List.getElem_cons_succ, List.setIfInBounds_toArray, List.set_cons_zero, List.set_cons_succ])
           (refine' wpAnyH_take (i := 37) rfl (by kernel_rfl) (by kernel_rfl) (by kernel_rfl) (fun _ _ _ h => h) (Or.inl ⟨by rfl, ?_⟩) (by assumption) ?_; rotate_left; (· (intro wq hq; (try dsimp only at hq); go_simp; first | done | with_reducible rfl)); simp only [Act.put, List.getElem_toArray, List.getElem_cons_zero, List.getElem_cons_succ, List.setIfInBounds_toArray, List.set_cons_zero, List.set_cons_succ])
           refine wpAnyH_done (by kernel_rfl) ?_ _
           clear hx0
           have c0 := A0q.out.cell 0
           have c1 := A0q.out.cell 1
           have c2 := A0q.out.cell 2
           have c3 := A0q.out.cell 3
           have c4 := A0q.out.cell 4
           have c5 := A0q.out.cell 5
           simp only [List.getElem?_toArray, List.getElem?_cons_zero, List.getElem?_cons_succ] at c0 c1 c2 c3 c4 c5
           go_wp2_with fail
           refine Calls.mono (qf.out vq (hT'.out.below Bq.out) (ha0.out.kept Bq.out)) ?_
           rintro e vr ⟨rfl, hb⟩
           clear c0 c1 c2 c3 c4 c5
           have A0r := hid (A0q.out.keptAll hb)
           have A1r := hid (A1q.out.keptAll hb)
           have A2r := hid (A2q.out.keptAll hb)
           have Br := hid (Bq.out.trans (hb.mono Bq.out.size))
           clear hb A0q A1q A2q Bq
           have d0 := A1r.out.cell 0
           have d1 := A1r.out.cell 1
           have d2 := A1r.out.cell 2
           have d3 := A1r.out.cell 3
           have d4 := A1r.out.cell 4
           have d5 := A1r.out.cell 5
           simp only [List.getElem?_toArray, List.getElem?_cons_zero, List.getElem?_cons_succ] at d0 d1 d2 d3 d4 d5
           go_wp2_with fail
           refine Calls.mono (qf2.out vr (hT'.out.below Br.out) (ha1.out.kept Br.out)) ?_
           rintro e vs ⟨rfl, hb⟩
           clear d0 d1 d2 d3 d4 d5
           have A0s := hid (A0r.out.keptAll hb)
           have A1s := hid (A1r.out.keptAll hb)
           have A2s := hid (A2r.out.keptAll hb)
           have Bs := hid (Br.out.trans (hb.mono Br.out.size))
           clear hb A0r A1r A2r Br
           have c0 := A0s.out.cell 0
           have c1 := A0s.out.cell 1
           have c2 := A0s.out.cell 2
           have c3 := A0s.out.cell 3
           have c4 := A0s.out.cell 4
           have c5 := A0s.out.cell 5
           simp only [List.getElem?_toArray, List.getElem?_cons_zero, List.getElem?_cons_succ] at c0 c1 c2 c3 c4 c5
           have d0 := A1s.out.cell 0
           have d1 := A1s.out.cell 1
           have d2 := A1s.out.cell 2
           have d3 := A1s.out.cell 3
           have d4 := A1s.out.cell 4
           have d5 := A1s.out.cell 5
           simp only [List.getElem?_toArray, List.getElem?_cons_zero, List.getElem?_cons_succ] at d0 d1 d2 d3 d4 d5
           go_wp2_with fail
           refine Calls.mono (qs.out vs (ha0.out.kept Bs.out) (ha1.out.kept Bs.out)) ?_
           rintro e vt ⟨rfl, hb⟩
           clear c0 c1 c2 c3 c4 c5 d0 d1 d2 d3 d4 d5
           have A0t := hid (A0s.out.keptAll hb)
           have A1t := hid (A1s.out.keptAll hb)
           have A2t := hid (A2s.out.keptAll hb)
           have Bt := hid (Bs.out.trans (hb.mono Bs.out.size))
           clear hb A0s A1s A2s Bs
           cases S with
           | false =>
            go_wp2
            go_ret
            exact ⟨rfl, Bt.out⟩
           | true =>
            have c0 := A0t.out.cell 0
            have c1 := A0t.out.cell 1
            have c2 := A0t.out.cell 2
            have c3 := A0t.out.cell 3
            have c4 := A0t.out.cell 4
            have c5 := A0t.out.cell 5
            simp only [List.getElem?_toArray, List.getElem?_cons_zero, List.getElem?_cons_succ] at c0 c1 c2 c3 c4 c5
            go_wp2_with fail
            refine Calls.mono (qf.out vt (hT'.out.below Bt.out) (ha0.out.kept Bt.out)) ?_
            rintro e vu ⟨rfl, hb⟩
            clear c0 c1 c2 c3 c4 c5
            have A0u := hid (A0t.out.keptAll hb)
            have A1u := hid (A1t.out.keptAll hb)
            have A2u := hid (A2t.out.keptAll hb)
            have Bu := hid (Bt.out.trans (hb.mono Bt.out.size))
            clear hb A0t A1t A2t Bt
            go_wp2
            go_ret
            exact ⟨rfl, Bu.out⟩
          exact AllReadyH.nil
         exact AllReadyH.nil
        exact AllReadyH.nil
       exact AllReadyH.nil
      exact AllReadyH.nil
     exact AllReadyH.nil
   exact AllReadyH.nil
  exact AllReadyH.nil
 exact AllReadyH.nil
end Go.Proofs.YtkejlejhnnjdkaaGreatDoor
