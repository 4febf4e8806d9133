/-
  The parser's text, number, value (by gen_tqg.py).
-/
import Derived.Test.YtkejlejhnnjdkaaGreatDoorTqD
import Derived.Test.YtkejlejhnnjdkaaGreatDoorTqF
namespace Go.Proofs.YtkejlejhnnjdkaaGreatDoor
open Go.RowKit Go.Shelf
theorem bytsV_lt (s : ByteArray) : ∀ x ∈ byts s, x < 256 := by
  intro x hx
  obtain ⟨y, -, rfl⟩ := List.mem_map.1 hx
  exact UInt8.toNat_lt y
theorem cellV_lt {w : World} {a : Addr} {v : Value} (h : w.cell? a = some v) : a.block < w.heap.size := World.block_lt_of_cell? w a h
theorem unescF_len : ∀ (n : Nat) (l o : List Nat), (∀ x ∈ l, x < 256) → unescF n l = some o → o.length ≤ l.length := by
  intro n
  induction n with
  | zero =>
    intro l o h e
    cases l with
    | nil => simp [unescF] at e; subst e; simp
    | cons x r => simp [unescF] at e
  | succ n ih =>
    intro l o h e
    cases l with
    | nil => simp [unescF] at e; subst e; simp
    | cons x r =>
      simp only [unescF] at e
      cases hs : stepL (x :: r) with
      | none => rw [hs] at e; simp at e
      | some p =>
        obtain ⟨k, o1⟩ := p
        rw [hs] at e
        simp only [Option.map_eq_some_iff] at e
        obtain ⟨o2, e1, rfl⟩ := e
        have h1 := stepL_some (by simp) h hs
        have h2 := ih _ _ (fun y hy => h y (List.mem_of_mem_drop hy)) e1
        rw [List.length_drop] at h2
        rw [List.length_append]
        omega
theorem unS_size (s : ByteArray) : (unS s).1.size ≤ s.size := by
  unfold unS
  split
  · exact Nat.zero_le _
  · cases e : unescL (byts s) with
    | none => exact Nat.zero_le _
    | some o =>
      show (mkS o).size ≤ _
      rw [mkS_size]
      have := unescF_len _ _ _ (bytsV_lt s) e
      rwa [byts_length] at this
theorem Txt.len {s : ByteArray} {i j : Nat} {T : ByteArray} (h : Txt s i j T) : T.size ≤ s.size := by
  obtain ⟨-, e, h2, -, rfl⟩ := h
  refine Nat.le_trans (unS_size _) ?_
  rw [ByteArray.size_extract]
  omega
set_option maxRecDepth 10000 in
set_option maxHeartbeats 4000000 in
theorem textP_calls (b g : Nat) (s : ByteArray) (hs : s.size ≤ 1048576) (i j : Nat) (X : ByteArray) (hX : Hid (Txt s i j X)) (w : World) (hP : Hid (PaI b g s i w)) :
    Calls Tryz.prog 29 #[.pointer (some ⟨b, 0, none⟩)] w fun e w' => ParP b g s j (.mk 4 false ⟨#[]⟩ X [] []) w e w' := by
  have hqu := hid (fun u h => quoted_calls b g s hs i j X hX u h)
  have hXs : X.size ≤ capT := by have := hX.out.len; unfold capT; omega
  have hlb := hP.out.at_.lt
  have hlg := hP.out.tk.lt
  have A0 := hid (At.new w #[.int .i64 0, .bool false, .string ⟨#[]⟩, .string ⟨#[]⟩, .slice none 0 0, .slice none 0 0] 25)
  have q0 : Below w.heap.size w (w.alloc (.cells #[.int .i64 0, .bool false, .string ⟨#[]⟩, .string ⟨#[]⟩, .slice none 0 0, .slice none 0 0] 25)) := (Below.refl _ w).alloc (Nat.le_refl _) _
  have P0 := hid (hP.out.kept q0)
  have F0 := hid (PFr.of_below (b := b) q0)
  have hsz := hid (show (w.alloc (.cells #[.int .i64 0, .bool false, .string ⟨#[]⟩, .string ⟨#[]⟩, .slice none 0 0, .slice none 0 0] 25)).heap.size = w.heap.size + 1 from World.size_alloc _ _)
  obtain ⟨p, hp⟩ : ∃ p, Hid (w.heap.size = p) := ⟨_, rfl⟩
  have hpb : Hid (b ≠ p) := by show b ≠ p; have := hp.out; omega
  have hpg : Hid (g ≠ p) := by show g ≠ p; have := hp.out; omega
  rw [hp.out] at A0 hsz
  clear q0 hlb hlg
  go_enter Tryz.func29, Tryz.ntmps29
  go_upto_region 1 with fail
  rw [hp.out]
  generalize w.alloc (.cells #[.int .i64 0, .bool false, .string ⟨#[]⟩, .string ⟨#[]⟩, .slice none 0 0, .slice none 0 0] 25) = W1 at A0 P0 F0 hsz ⊢
  go_wp2_with fail
  refine Calls.mono (hqu.out W1 P0) ?_
  rintro e W2 ⟨rfl, hP2, hF2⟩
  have A2 := hid (hF2.at_ A0.out (Ne.symm hpb.out))
  have P2 := hid hP2
  have F2 := hid (F0.out.trans hF2)
  clear hqu hP2 hF2 A0 P0 F0
  have d0 := A2.out.cell 0
  have d1 := A2.out.cell 1
  have d2 := A2.out.cell 2
  have d3 := A2.out.cell 3
  have d4 := A2.out.cell 4
  have d5 := A2.out.cell 5
  simp only [List.getElem?_toArray, List.getElem?_cons_zero, List.getElem?_cons_succ] at d0 d1 d2 d3 d4 d5
  have f0 := A2.out.frozen 0
  have f1 := A2.out.frozen 1
  have f2 := A2.out.frozen 2
  have f3 := A2.out.frozen 3
  have f4 := A2.out.frozen 4
  have f5 := A2.out.frozen 5
  go_wp2
  refine ret_val1 (p := 2) rfl rfl (A2.out.six) rfl ?_
  exact ⟨_, rfl, leafOn _ _ _ _ _ _ (by decide) (by first | decide | assumption) (by first | decide | assumption), P2.out.same same_six hpb.out hpg.out, F2.out.six (Nat.le_of_eq hp.out) _ _ _ _ _ _⟩
set_option maxRecDepth 10000 in
set_option maxHeartbeats 4000000 in
theorem numberP_calls (b g : Nat) (s : ByteArray) (hs : s.size ≤ 8388608) (i en : Nat) (hi : i < s.size) (hj : Hid ((readS s i).2.1 = en)) (hie : i < en) (hes : en ≤ s.size) (w : World) (hP : Hid (PaI b g s i w)) :
    Calls Tryz.prog 28 #[.pointer (some ⟨b, 0, none⟩)] w fun e w' => ParP b g s en (.mk 3 false (s.extract i en) ⟨#[]⟩ [] []) w e w' := by
  have hrd := hid (fun u => readD_calls s i (by omega) (Nat.le_of_lt hi) u)
  obtain ⟨⟨D, en', er⟩, hD⟩ : ∃ x, readS s i = x := ⟨_, rfl⟩
  obtain rfl : en = en' := by have := hj.out; rw [hD] at this; exact this.symm
  simp only [readV, hD] at hrd
  obtain ⟨DN, DD, DX⟩ := D
  dsimp only [decV] at hrd
  generalize (⟨DD.toArray⟩ : ByteArray) = TD at hrd
  have hel : (en : Int) ≤ (s.size : Int) := by omega
  have hii : (i : Int) ≤ (en : Int) := by omega
  have hsi : (s.size : Int) ≤ 8388608 := by omega
  have hcl := hid (fun u => cloneT_calls (s.extract i en) (by rw [ByteArray.size_extract]; omega) u)
  have hXs : (s.extract i en).size ≤ capT := by rw [ByteArray.size_extract]; unfold capT; omega
  clear hD hj
  have hlb := hP.out.at_.lt
  have hlg := hP.out.tk.lt
  have A0 := hid (At.new w #[.int .i64 0, .bool false, .string ⟨#[]⟩, .string ⟨#[]⟩, .slice none 0 0, .slice none 0 0] 25)
  have q0 : Below w.heap.size w (w.alloc (.cells #[.int .i64 0, .bool false, .string ⟨#[]⟩, .string ⟨#[]⟩, .slice none 0 0, .slice none 0 0] 25)) := (Below.refl _ w).alloc (Nat.le_refl _) _
  have P0 := hid (hP.out.kept q0)
  have F0 := hid (PFr.of_below (b := b) q0)
  have hsz := hid (show (w.alloc (.cells #[.int .i64 0, .bool false, .string ⟨#[]⟩, .string ⟨#[]⟩, .slice none 0 0, .slice none 0 0] 25)).heap.size = w.heap.size + 1 from World.size_alloc _ _)
  obtain ⟨p, hp⟩ : ∃ p, Hid (w.heap.size = p) := ⟨_, rfl⟩
  have hpb : Hid (b ≠ p) := by show b ≠ p; have := hp.out; omega
  have hpg : Hid (g ≠ p) := by show g ≠ p; have := hp.out; omega
  rw [hp.out] at A0 hsz
  clear q0 hlb hlg
  go_enter Tryz.func28, Tryz.ntmps28
  go_upto_region 1 with fail
  rw [hp.out]
  generalize w.alloc (.cells #[.int .i64 0, .bool false, .string ⟨#[]⟩, .string ⟨#[]⟩, .slice none 0 0, .slice none 0 0] 25) = W1 at A0 P0 F0 hsz ⊢
  have hcell : Hid (∀ {u : World}, Below W1.heap.size W1 u → u.cell? ⟨b, 0, none⟩ = some (.string s) ∧ u.cell? ⟨b, 1, none⟩ = some (.int .i64 (i : Int))) := fun h => ⟨(P0.out.kept h).at_.cell 0, (P0.out.kept h).at_.cell 1⟩
  have q0 := hid (show Below W1.heap.size W1 W1.drew from (Below.refl _ _).drew)
  have hx0 := hcell.out q0.out
  go_wp2
  refine wp_region_held_drew (S := fun w' => w'.cell? ⟨b, 0, none⟩ = some (.string s) ∧ w'.cell? ⟨b, 1, none⟩ = some (.int .i64 (i : Int))) (by kernel_rfl) hx0 (fun hHeld => ?_)
  clear hHeld
  obtain ⟨v0, ev0⟩ : ∃ v, W1.drew = v := ⟨_, rfl⟩
  rw [ev0] at q0 hx0 ⊢
  clear ev0
  (refine' wpAnyH_take (i := 0) rfl (by kernel_rfl) (by kernel_rfl) (by kernel_rfl) (fun _ _ _ h => h) (Or.inl ⟨by rfl, ?_⟩) (by assumption) ?_; rotate_left; (· (intro wq hq; (try dsimp only at hq); go_simp; first | done | with_reducible rfl)); simp only [Act.put, List.getElem_toArray, List.getElem_cons_zero, List.setIfInBounds_toArray, List.set_cons_zero, List.set_cons_succ])
  (refine' wpAnyH_take (i := 1) rfl (by kernel_rfl) (by kernel_rfl) (by kernel_rfl) (fun _ _ _ h => h) (Or.inl ⟨by rfl, ?_⟩) (by assumption) ?_; rotate_left; (· (intro wq hq; (try dsimp only at hq); go_simp; first | done | with_reducible rfl)); simp only [Act.put, List.getElem_toArray, List.getElem_cons_zero, List.getElem_cons_succ, List.setIfInBounds_toArray, List.set_cons_zero, List.set_cons_succ])
  (refine' wpAnyH_take (i := 2) rfl (by kernel_rfl) (by kernel_rfl) (by kernel_rfl) (fun _ _ _ h => h) (Or.inl ⟨by rfl, ?_⟩) (by assumption) ?_; rotate_left; (· (intro wq hq; (try dsimp only at hq); go_simp; first | done | with_reducible rfl)); simp only [Act.put, List.getElem_toArray, List.getElem_cons_zero, List.getElem_cons_succ, List.setIfInBounds_toArray, List.set_cons_zero, List.set_cons_succ])
  (refine' wpAnyH_take (i := 3) rfl (by kernel_rfl) (by kernel_rfl) (by kernel_rfl) (fun _ _ _ h => h) (Or.inl ⟨by rfl, ?_⟩) (by assumption) ?_; rotate_left; (· (intro wq hq; (try dsimp only at hq); go_simp; first | done | with_reducible rfl)); simp only [Act.put, List.getElem_toArray, List.getElem_cons_zero, List.getElem_cons_succ, List.setIfInBounds_toArray, List.set_cons_zero, List.set_cons_succ])
  (refine' wpAnyH_take (i := 4) rfl (by kernel_rfl) (by kernel_rfl) (by kernel_rfl) (fun _ _ _ h => h) (Or.inl ⟨by rfl, ?_⟩) (by assumption) ?_; rotate_left; (· (intro wq hq; (try dsimp only at hq); go_simp; first | done | with_reducible rfl)); simp only [Act.put, List.getElem_toArray, List.getElem_cons_zero, List.getElem_cons_succ, List.setIfInBounds_toArray, List.set_cons_zero, List.set_cons_succ])
  (refine' wpAnyH_take (i := 5) rfl (by kernel_rfl) (by kernel_rfl) (by kernel_rfl) (fun _ _ _ h => h) (Or.inl ⟨by rfl, ?_⟩) (by assumption) ?_; rotate_left; (· (intro wq hq; (try dsimp only at hq); go_simp; first | done | with_reducible rfl)); simp only [Act.put, List.getElem_toArray, List.getElem_cons_zero, List.getElem_cons_succ, List.setIfInBounds_toArray, List.set_cons_zero, List.set_cons_succ])
  (refine' wpAnyH_take (i := 6) rfl (by kernel_rfl) (by kernel_rfl) (by kernel_rfl) (fun _ _ _ h => h) (Or.inl ⟨by rfl, ?_⟩) (by assumption) ?_; rotate_left; (· (intro wq hq; (try dsimp only at hq); go_simp; first | done | with_reducible rfl)); simp only [Act.put, List.getElem_toArray, List.getElem_cons_zero, List.getElem_cons_succ, List.setIfInBounds_toArray, List.set_cons_zero, List.set_cons_succ])
  (refine' wpAnyH_take (i := 7) rfl (by kernel_rfl) (by kernel_rfl) (by kernel_rfl) (fun _ _ _ h => h) (Or.inl ⟨by rfl, ?_⟩) (by assumption) ?_; rotate_left; (· (intro wq hq; (try dsimp only at hq); go_simp; first | done | with_reducible rfl)); simp only [Act.put, List.getElem_toArray, List.getElem_cons_zero, List.getElem_cons_succ, List.setIfInBounds_toArray, List.set_cons_zero, List.set_cons_succ])
  refine wpAnyH_ready (rs := [8, 13]) (by kernel_rfl) (by simp) ?_
  refine AllReadyH.cons rfl (fun K hK => ?_) ?_
  · rw [if_pos (by rfl)]
    go_simp
    refine Calls.mono (hrd.out _) ?_
    rintro e v1 ⟨rfl, q1⟩
    have b1 := hid (q0.out.trans (q1.mono q0.out.size))
    refine hK.out _ _ (hcell.out b1.out) (fun _ => ?_)
    clear hK K hrd
    (refine' wpAnyH_take (i := 9) rfl (by kernel_rfl) (by kernel_rfl) (by kernel_rfl) (fun _ _ _ h => h) (Or.inl ⟨by rfl, ?_⟩) (by assumption) ?_; rotate_left; (· (intro wq hq; (try dsimp only at hq); go_simp; first | done | with_reducible rfl)); simp only [Act.put, List.getElem_toArray, List.getElem_cons_zero, List.getElem_cons_succ, List.setIfInBounds_toArray, List.set_cons_zero, List.set_cons_succ])
    (refine' wpAnyH_take (i := 10) rfl (by kernel_rfl) (by kernel_rfl) (by kernel_rfl) (fun _ _ _ h => h) (Or.inl ⟨by rfl, ?_⟩) (by assumption) ?_; rotate_left; (· (intro wq hq; (try dsimp only at hq); go_simp; first | done | with_reducible rfl)); simp only [Act.put, List.getElem_toArray, List.getElem_cons_zero, List.getElem_cons_succ, List.setIfInBounds_toArray, List.set_cons_zero, List.set_cons_succ])
    (refine' wpAnyH_take (i := 11) rfl (by kernel_rfl) (by kernel_rfl) (by kernel_rfl) (fun _ _ _ h => h) (Or.inl ⟨by rfl, ?_⟩) (by assumption) ?_; rotate_left; (· (intro wq hq; (try dsimp only at hq); go_simp; first | done | with_reducible rfl)); simp only [Act.put, List.getElem_toArray, List.getElem_cons_zero, List.getElem_cons_succ, List.setIfInBounds_toArray, List.set_cons_zero, List.set_cons_succ])
    (refine' wpAnyH_take (i := 12) rfl (by kernel_rfl) (by kernel_rfl) (by kernel_rfl) (fun _ _ _ h => h) (Or.inl ⟨by rfl, ?_⟩) (by assumption) ?_; rotate_left; (· (intro wq hq; (try dsimp only at hq); go_simp; first | done | with_reducible rfl)); simp only [Act.put, List.getElem_toArray, List.getElem_cons_zero, List.getElem_cons_succ, List.setIfInBounds_toArray, List.set_cons_zero, List.set_cons_succ])
    refine wpAnyH_ready (rs := [13]) (by kernel_rfl) (by simp) ?_
    refine AllReadyH.cons rfl (fun K hK => ?_) ?_
    · go_simp
      obtain ⟨v2, e2⟩ : ∃ v, World.alloc v1 (.cells #[.bool false, .string ⟨#[]⟩, .int .i64 0] 63) = v := ⟨_, rfl⟩
      have q2 : Below v1.heap.size v1 v2 := by rw [← e2]; exact (Below.refl _ _).alloc (Nat.le_refl _) _
      have hp0 := hid (show At v2 v1.heap.size #[.bool false, .string ⟨#[]⟩, .int .i64 0] 63 by rw [← e2]; exact At.new v1 _ _)
      have hnb := hid (show W1.heap.size ≤ v1.heap.size from b1.out.size)
      rw [e2]
      clear e2
      have b2 := hid (b1.out.trans (q2.mono b1.out.size))
      refine hK.out _ _ (hcell.out b2.out) (fun _ => ?_)
      clear hK K b1 q2 q1
      have d0 : v2.cell? ⟨v1.heap.size, 0, none⟩ = some (.bool false) := hp0.out.cell 0
      have d1 : v2.cell? ⟨v1.heap.size, 1, none⟩ = some (.string ⟨#[]⟩) := hp0.out.cell 1
      have d2 : v2.cell? ⟨v1.heap.size, 2, none⟩ = some (.int .i64 0) := hp0.out.cell 2
      have f0 := hp0.out.frozen 0
      have f1 := hp0.out.frozen 1
      have f2 := hp0.out.frozen 2
      have b3 := hid (show Below W1.heap.size W1 (((v2.setCell ⟨v1.heap.size, 0, none⟩ (.bool DN)).setCell ⟨v1.heap.size, 1, none⟩ (.string TD)).setCell ⟨v1.heap.size, 2, none⟩ (.int .i64 DX)) from ((b2.out.setCell (p := ⟨v1.heap.size, 0, none⟩) hnb.out _).setCell (p := ⟨v1.heap.size, 1, none⟩) hnb.out _).setCell (p := ⟨v1.heap.size, 2, none⟩) hnb.out _)
      have hy3 := hid (hcell.out b3.out)
      refine wpAnyH_ready (rs := [14]) (by kernel_rfl) (by simp) ?_
      refine AllReadyH.cons rfl (fun K hK => ?_) ?_
      · go_simp
        refine hK.out _ _ hy3.out (fun _ => ?_)
        clear hK K d0 d1 d2 f0 f1 f2
        (refine' wpAnyH_take (i := 15) rfl (by kernel_rfl) (by kernel_rfl) (by kernel_rfl) (fun _ _ _ h => h) (Or.inl ⟨by rfl, ?_⟩) (by assumption) ?_; rotate_left; (· (intro wq hq; (try dsimp only at hq); go_simp; first | done | with_reducible rfl)); simp only [Act.put, List.getElem_toArray, List.getElem_cons_zero, List.getElem_cons_succ, List.setIfInBounds_toArray, List.set_cons_zero, List.set_cons_succ])
        (refine' wpAnyH_take (i := 16) rfl (by kernel_rfl) (by kernel_rfl) (by kernel_rfl) (fun _ _ _ h => h) (Or.inl ⟨by rfl, ?_⟩) (by assumption) ?_; rotate_left; (· (intro wq hq; (try dsimp only at hq); go_simp; first | done | with_reducible rfl)); simp only [Act.put, List.getElem_toArray, List.getElem_cons_zero, List.getElem_cons_succ, List.setIfInBounds_toArray, List.set_cons_zero, List.set_cons_succ])
        refine wpAnyH_done (by kernel_rfl) ?_ _
        have A1 := hid (A0.out.keptAll b3.out)
        have P1 := hid (P0.out.kept b3.out)
        have F1 := hid (F0.out.trans (PFr.of_below b3.out))
        clear hy3 b3 hp0 hnb b2
        generalize ((v2.setCell ⟨v1.heap.size, 0, none⟩ (.bool DN)).setCell ⟨v1.heap.size, 1, none⟩ (.string TD)).setCell ⟨v1.heap.size, 2, none⟩ (.int .i64 DX) = W3 at *
        have c0 : W3.cell? ⟨b, 0, none⟩ = some (.string s) := P1.out.at_.cell 0
        have c1 : W3.cell? ⟨b, 1, none⟩ = some (.int .i64 (i : Int)) := P1.out.at_.cell 1
        go_wp2
        refine wp_region_quiet (C := (fun w' => w'.cell? ⟨b, 0, none⟩ = some (.string s) ∧ w'.cell? ⟨b, 1, none⟩ = some (.int .i64 (i : Int)) ∧ Below W3.heap.size W3 w')) (by kernel_rfl) (by kernel_rfl) (⟨c0, c1, (Below.refl _ _).drew⟩) ?_
        dsimp only
        repeat (first
          | (refine wpQuiet_skip (by rfl) ?_; simp only [Act.put, List.setIfInBounds_toArray, List.set_cons_zero, List.set_cons_succ])
          | (refine' wpQuiet_take (by rfl) ?_ ?_
             rotate_left
             · (intro wq hq; (try dsimp only at hq); go_simp
                first
                  | done
                  | with_reducible rfl
                  | (go_at_call 51; have hzz := hcl.out wq; with_reducible refine hzz.mono ?_; clear hzz; rintro e wz ⟨rfl, hb⟩; exact ⟨rfl, (hb.cell (p := ⟨b, 0, none⟩) (cellV_lt hq.1)).trans hq.1, (hb.cell (p := ⟨b, 1, none⟩) (cellV_lt hq.2.1)).trans hq.2.1, hq.2.2.trans (hb.mono hq.2.2.size)⟩)
               )
             simp only [Act.put, List.setIfInBounds_toArray, List.set_cons_zero, List.set_cons_succ]))
        refine wpQuiet_nil ?_
        intro W4 hw4
        have A3 := hid (A1.out.keptAll hw4.2.2)
        have P3 := hid (P1.out.kept hw4.2.2)
        have F3 := hid (F1.out.trans (PFr.of_below hw4.2.2))
        clear hw4 c0 c1 A1 P1 F1 hcl
        have c1 : W4.cell? ⟨b, 1, none⟩ = some (.int .i64 (i : Int)) := P3.out.at_.cell 1
        have g1 := P3.out.at_.frozen 1
        have A2 := hid (A3.out.other (p := ⟨b, 1, none⟩) (Ne.symm hpb.out) (.int .i64 (en : Int)))
        have P2 := hid (P3.out.go (en : Int) en rfl)
        have F2 := hid (F3.out.set 1 (.int .i64 (en : Int)))
        go_upto_region 4 with fail
        generalize W4.setCell ⟨b, 1, none⟩ (.int .i64 (en : Int)) = W5 at A2 P2 F2 ⊢
        clear c1 g1 A3 P3 F3
        have d0 := A2.out.cell 0
        have d1 := A2.out.cell 1
        have d2 := A2.out.cell 2
        have d3 := A2.out.cell 3
        have d4 := A2.out.cell 4
        have d5 := A2.out.cell 5
        simp only [List.getElem?_toArray, List.getElem?_cons_zero, List.getElem?_cons_succ] at d0 d1 d2 d3 d4 d5
        have f0 := A2.out.frozen 0
        have f1 := A2.out.frozen 1
        have f2 := A2.out.frozen 2
        have f3 := A2.out.frozen 3
        have f4 := A2.out.frozen 4
        have f5 := A2.out.frozen 5
        go_wp2
        refine ret_val1 (p := 2) rfl rfl (A2.out.six) rfl ?_
        exact ⟨_, rfl, leafOn _ _ _ _ _ _ (by decide) (by first | decide | assumption) (by first | decide | assumption), P2.out.same same_six hpb.out hpg.out, F2.out.six (Nat.le_of_eq hp.out) _ _ _ _ _ _⟩
      exact AllReadyH.nil
    exact AllReadyH.nil
  refine AllReadyH.cons rfl (fun K hK => ?_) ?_
  · go_simp
    obtain ⟨v1, e1⟩ : ∃ v, World.alloc v0 (.cells #[.bool false, .string ⟨#[]⟩, .int .i64 0] 63) = v := ⟨_, rfl⟩
    have q1 : Below v0.heap.size v0 v1 := by rw [← e1]; exact (Below.refl _ _).alloc (Nat.le_refl _) _
    have hpA := hid (show At v1 v0.heap.size #[.bool false, .string ⟨#[]⟩, .int .i64 0] 63 by rw [← e1]; exact At.new v0 _ _)
    have hnb := hid (show W1.heap.size ≤ v0.heap.size from q0.out.size)
    rw [e1]
    clear e1
    have b1 := hid (q0.out.trans (q1.mono q0.out.size))
    refine hK.out _ _ (hcell.out b1.out) (fun _ => ?_)
    clear hK K q1
    refine wpAnyH_ready (rs := [8]) (by kernel_rfl) (by simp) ?_
    refine AllReadyH.cons rfl (fun K hK => ?_) ?_
    · rw [if_pos (by rfl)]
      go_simp
      refine Calls.mono (hrd.out _) ?_
      rintro e v2 ⟨rfl, q2⟩
      have hp0 := hid (hpA.out.keptAll q2)
      have b2 := hid (b1.out.trans (q2.mono b1.out.size))
      refine hK.out _ _ (hcell.out b2.out) (fun _ => ?_)
      clear hK K hrd b1 q2 hpA
      (refine' wpAnyH_take (i := 9) rfl (by kernel_rfl) (by kernel_rfl) (by kernel_rfl) (fun _ _ _ h => h) (Or.inl ⟨by rfl, ?_⟩) (by assumption) ?_; rotate_left; (· (intro wq hq; (try dsimp only at hq); go_simp; first | done | with_reducible rfl)); simp only [Act.put, List.getElem_toArray, List.getElem_cons_zero, List.getElem_cons_succ, List.setIfInBounds_toArray, List.set_cons_zero, List.set_cons_succ])
      (refine' wpAnyH_take (i := 10) rfl (by kernel_rfl) (by kernel_rfl) (by kernel_rfl) (fun _ _ _ h => h) (Or.inl ⟨by rfl, ?_⟩) (by assumption) ?_; rotate_left; (· (intro wq hq; (try dsimp only at hq); go_simp; first | done | with_reducible rfl)); simp only [Act.put, List.getElem_toArray, List.getElem_cons_zero, List.getElem_cons_succ, List.setIfInBounds_toArray, List.set_cons_zero, List.set_cons_succ])
      (refine' wpAnyH_take (i := 11) rfl (by kernel_rfl) (by kernel_rfl) (by kernel_rfl) (fun _ _ _ h => h) (Or.inl ⟨by rfl, ?_⟩) (by assumption) ?_; rotate_left; (· (intro wq hq; (try dsimp only at hq); go_simp; first | done | with_reducible rfl)); simp only [Act.put, List.getElem_toArray, List.getElem_cons_zero, List.getElem_cons_succ, List.setIfInBounds_toArray, List.set_cons_zero, List.set_cons_succ])
      (refine' wpAnyH_take (i := 12) rfl (by kernel_rfl) (by kernel_rfl) (by kernel_rfl) (fun _ _ _ h => h) (Or.inl ⟨by rfl, ?_⟩) (by assumption) ?_; rotate_left; (· (intro wq hq; (try dsimp only at hq); go_simp; first | done | with_reducible rfl)); simp only [Act.put, List.getElem_toArray, List.getElem_cons_zero, List.getElem_cons_succ, List.setIfInBounds_toArray, List.set_cons_zero, List.set_cons_succ])
      have d0 : v2.cell? ⟨v0.heap.size, 0, none⟩ = some (.bool false) := hp0.out.cell 0
      have d1 : v2.cell? ⟨v0.heap.size, 1, none⟩ = some (.string ⟨#[]⟩) := hp0.out.cell 1
      have d2 : v2.cell? ⟨v0.heap.size, 2, none⟩ = some (.int .i64 0) := hp0.out.cell 2
      have f0 := hp0.out.frozen 0
      have f1 := hp0.out.frozen 1
      have f2 := hp0.out.frozen 2
      have b3 := hid (show Below W1.heap.size W1 (((v2.setCell ⟨v0.heap.size, 0, none⟩ (.bool DN)).setCell ⟨v0.heap.size, 1, none⟩ (.string TD)).setCell ⟨v0.heap.size, 2, none⟩ (.int .i64 DX)) from ((b2.out.setCell (p := ⟨v0.heap.size, 0, none⟩) hnb.out _).setCell (p := ⟨v0.heap.size, 1, none⟩) hnb.out _).setCell (p := ⟨v0.heap.size, 2, none⟩) hnb.out _)
      have hy3 := hid (hcell.out b3.out)
      refine wpAnyH_ready (rs := [14]) (by kernel_rfl) (by simp) ?_
      refine AllReadyH.cons rfl (fun K hK => ?_) ?_
      · go_simp
        refine hK.out _ _ hy3.out (fun _ => ?_)
        clear hK K d0 d1 d2 f0 f1 f2
        (refine' wpAnyH_take (i := 15) rfl (by kernel_rfl) (by kernel_rfl) (by kernel_rfl) (fun _ _ _ h => h) (Or.inl ⟨by rfl, ?_⟩) (by assumption) ?_; rotate_left; (· (intro wq hq; (try dsimp only at hq); go_simp; first | done | with_reducible rfl)); simp only [Act.put, List.getElem_toArray, List.getElem_cons_zero, List.getElem_cons_succ, List.setIfInBounds_toArray, List.set_cons_zero, List.set_cons_succ])
        (refine' wpAnyH_take (i := 16) rfl (by kernel_rfl) (by kernel_rfl) (by kernel_rfl) (fun _ _ _ h => h) (Or.inl ⟨by rfl, ?_⟩) (by assumption) ?_; rotate_left; (· (intro wq hq; (try dsimp only at hq); go_simp; first | done | with_reducible rfl)); simp only [Act.put, List.getElem_toArray, List.getElem_cons_zero, List.getElem_cons_succ, List.setIfInBounds_toArray, List.set_cons_zero, List.set_cons_succ])
        refine wpAnyH_done (by kernel_rfl) ?_ _
        have A1 := hid (A0.out.keptAll b3.out)
        have P1 := hid (P0.out.kept b3.out)
        have F1 := hid (F0.out.trans (PFr.of_below b3.out))
        clear hy3 b3 hp0 hnb b2
        generalize ((v2.setCell ⟨v0.heap.size, 0, none⟩ (.bool DN)).setCell ⟨v0.heap.size, 1, none⟩ (.string TD)).setCell ⟨v0.heap.size, 2, none⟩ (.int .i64 DX) = W3 at *
        have c0 : W3.cell? ⟨b, 0, none⟩ = some (.string s) := P1.out.at_.cell 0
        have c1 : W3.cell? ⟨b, 1, none⟩ = some (.int .i64 (i : Int)) := P1.out.at_.cell 1
        go_wp2
        refine wp_region_quiet (C := (fun w' => w'.cell? ⟨b, 0, none⟩ = some (.string s) ∧ w'.cell? ⟨b, 1, none⟩ = some (.int .i64 (i : Int)) ∧ Below W3.heap.size W3 w')) (by kernel_rfl) (by kernel_rfl) (⟨c0, c1, (Below.refl _ _).drew⟩) ?_
        dsimp only
        repeat (first
          | (refine wpQuiet_skip (by rfl) ?_; simp only [Act.put, List.setIfInBounds_toArray, List.set_cons_zero, List.set_cons_succ])
          | (refine' wpQuiet_take (by rfl) ?_ ?_
             rotate_left
             · (intro wq hq; (try dsimp only at hq); go_simp
                first
                  | done
                  | with_reducible rfl
                  | (go_at_call 51; have hzz := hcl.out wq; with_reducible refine hzz.mono ?_; clear hzz; rintro e wz ⟨rfl, hb⟩; exact ⟨rfl, (hb.cell (p := ⟨b, 0, none⟩) (cellV_lt hq.1)).trans hq.1, (hb.cell (p := ⟨b, 1, none⟩) (cellV_lt hq.2.1)).trans hq.2.1, hq.2.2.trans (hb.mono hq.2.2.size)⟩)
               )
             simp only [Act.put, List.setIfInBounds_toArray, List.set_cons_zero, List.set_cons_succ]))
        refine wpQuiet_nil ?_
        intro W4 hw4
        have A3 := hid (A1.out.keptAll hw4.2.2)
        have P3 := hid (P1.out.kept hw4.2.2)
        have F3 := hid (F1.out.trans (PFr.of_below hw4.2.2))
        clear hw4 c0 c1 A1 P1 F1 hcl
        have c1 : W4.cell? ⟨b, 1, none⟩ = some (.int .i64 (i : Int)) := P3.out.at_.cell 1
        have g1 := P3.out.at_.frozen 1
        have A2 := hid (A3.out.other (p := ⟨b, 1, none⟩) (Ne.symm hpb.out) (.int .i64 (en : Int)))
        have P2 := hid (P3.out.go (en : Int) en rfl)
        have F2 := hid (F3.out.set 1 (.int .i64 (en : Int)))
        go_upto_region 4 with fail
        generalize W4.setCell ⟨b, 1, none⟩ (.int .i64 (en : Int)) = W5 at A2 P2 F2 ⊢
        clear c1 g1 A3 P3 F3
        have d0 := A2.out.cell 0
        have d1 := A2.out.cell 1
        have d2 := A2.out.cell 2
        have d3 := A2.out.cell 3
        have d4 := A2.out.cell 4
        have d5 := A2.out.cell 5
        simp only [List.getElem?_toArray, List.getElem?_cons_zero, List.getElem?_cons_succ] at d0 d1 d2 d3 d4 d5
        have f0 := A2.out.frozen 0
        have f1 := A2.out.frozen 1
        have f2 := A2.out.frozen 2
        have f3 := A2.out.frozen 3
        have f4 := A2.out.frozen 4
        have f5 := A2.out.frozen 5
        go_wp2
        refine ret_val1 (p := 2) rfl rfl (A2.out.six) rfl ?_
        exact ⟨_, rfl, leafOn _ _ _ _ _ _ (by decide) (by first | decide | assumption) (by first | decide | assumption), P2.out.same same_six hpb.out hpg.out, F2.out.six (Nat.le_of_eq hp.out) _ _ _ _ _ _⟩
      exact AllReadyH.nil
    exact AllReadyH.nil
  exact AllReadyH.nil
set_option maxRecDepth 10000 in
set_option maxHeartbeats 4000000 in
theorem valueP_g (b g : Nat) (s : ByteArray) (hs : s.size ≤ 281474976710656) (i k j : Nat) (t : Vt) (hk : Hid (IsSkip s i k)) (hks : k < s.size) (n F : Nat) (hn : n < 7) (hc : Hid (kindC (byteAt s k) = (n : Int))) (htk : (takesC b)[n]? = some (.func (.func F) #[.pointer (some ⟨b, 0, none⟩)] #[])) (he : ∀ (args : Array Value) (u : World), (callFunc F args).run Tryz.prog u = .ok (.enter F args) u)
    (hcall : Hid (∀ u, Hid (PaI b g s k u) → Calls Tryz.prog F #[.pointer (some ⟨b, 0, none⟩)] u fun e w' => ParP b g s j t u e w')) (w : World) (hP : Hid (PaI b g s i w)) :
    Calls Tryz.prog 16 #[.pointer (some ⟨b, 0, none⟩)] w fun e w' => ParP b g s j t w e w' := by
  have hbl := hid (fun u h => blanksP_calls b g s hs i k hk hks u h)
  have hkd := hid (fun u => kind17_calls (byteAt s k) u)
  rw [hc.out] at hkd
  obtain ⟨y, hY⟩ : ∃ y, Hid (byteAt s k = y) := ⟨_, rfl⟩
  have hy := byteAt_eq s k hks
  rw [hY.out] at hy hkd
  have hki : (k : Int) < (s.size : Int) := by omega
  have hni : (n : Int) < 7 := by omega
  have htk' := hid htk
  clear htk
  have hlb := hP.out.at_.lt
  have hlg := hP.out.tk.lt
  have A0 := hid (At.new w #[.int .i64 0, .bool false, .string ⟨#[]⟩, .string ⟨#[]⟩, .slice none 0 0, .slice none 0 0] 25)
  have q0 : Below w.heap.size w (w.alloc (.cells #[.int .i64 0, .bool false, .string ⟨#[]⟩, .string ⟨#[]⟩, .slice none 0 0, .slice none 0 0] 25)) := (Below.refl _ w).alloc (Nat.le_refl _) _
  have P0 := hid (hP.out.kept q0)
  have F0 := hid (PFr.of_below (b := b) q0)
  have hsz := hid (show (w.alloc (.cells #[.int .i64 0, .bool false, .string ⟨#[]⟩, .string ⟨#[]⟩, .slice none 0 0, .slice none 0 0] 25)).heap.size = w.heap.size + 1 from World.size_alloc _ _)
  obtain ⟨p, hp⟩ : ∃ p, Hid (w.heap.size = p) := ⟨_, rfl⟩
  have hpb : Hid (b ≠ p) := by show b ≠ p; have := hp.out; omega
  have hpg : Hid (g ≠ p) := by show g ≠ p; have := hp.out; omega
  rw [hp.out] at A0 hsz
  clear q0 hlb hlg
  go_enter Tryz.func16, Tryz.ntmps16
  go_upto_region 1 with fail
  rw [hp.out]
  generalize w.alloc (.cells #[.int .i64 0, .bool false, .string ⟨#[]⟩, .string ⟨#[]⟩, .slice none 0 0, .slice none 0 0] 25) = W1 at A0 P0 F0 hsz ⊢
  go_wp2_with fail
  refine Calls.mono (hbl.out W1 P0) ?_
  rintro e W2 ⟨rfl, hP2, hF2⟩
  have A1 := hid (hF2.at_ A0.out (Ne.symm hpb.out))
  have P1 := hid hP2
  have hF2' := hid hF2
  have F1 := hid (F0.out.trans hF2)
  have hsz2 : Hid (p < W2.heap.size) := by have h1 := hF2.size; have h2 := hsz.out; show _ < _; omega
  clear hbl hP2 hF2 hF2' A0 P0 F0 hsz hP
  go_upto_region 2 with fail
  have hx0 : W2.drew.cell? ⟨b, 0, none⟩ = some (.string s) ∧ W2.drew.cell? ⟨b, 2, none⟩ = some (.slice (some ⟨g, 0, none⟩) 7 7) ∧ W2.drew.cell? ⟨g, n, none⟩ = some (.func (.func F) #[.pointer (some ⟨b, 0, none⟩)] #[]) := ⟨P1.out.at_.cell 0, P1.out.at_.cell 2, (P1.out.tk.cell n).trans htk'.out⟩
  have q0 := hid (show Below W2.heap.size W2 W2.drew from (Below.refl _ _).drew)
  have P2 := hid (P1.out.kept q0.out)
  have A2 := hid (A1.out.keptAll q0.out)
  have F2 := hid (F1.out.trans (PFr.of_below q0.out))
  have hsz3 : Hid (p < W2.drew.heap.size) := hsz2.out
  refine wp_region_held_drew (S := fun w' => w'.cell? ⟨b, 0, none⟩ = some (.string s) ∧ w'.cell? ⟨b, 2, none⟩ = some (.slice (some ⟨g, 0, none⟩) 7 7) ∧ w'.cell? ⟨g, n, none⟩ = some (.func (.func F) #[.pointer (some ⟨b, 0, none⟩)] #[])) (by kernel_rfl) hx0 (fun hHeld => ?_)
  clear hHeld q0 P1 A1 F1 hsz2
  generalize W2.drew = v0 at *
  (refine' wpAnyH_take (i := 0) rfl (by kernel_rfl) (by kernel_rfl) (by kernel_rfl) (fun _ _ _ h => h) (Or.inl ⟨by rfl, ?_⟩) (by assumption) ?_; rotate_left; (· (intro wq hq; (try dsimp only at hq); go_simp; first | done | with_reducible rfl)); simp only [Act.put, List.getElem_toArray, List.getElem_cons_zero, List.setIfInBounds_toArray, List.set_cons_zero, List.set_cons_succ])
  (refine' wpAnyH_take (i := 1) rfl (by kernel_rfl) (by kernel_rfl) (by kernel_rfl) (fun _ _ _ h => h) (Or.inl ⟨by rfl, ?_⟩) (by assumption) ?_; rotate_left; (· (intro wq hq; (try dsimp only at hq); go_simp; first | done | with_reducible rfl)); simp only [Act.put, List.getElem_toArray, List.getElem_cons_zero, List.getElem_cons_succ, List.setIfInBounds_toArray, List.set_cons_zero, List.set_cons_succ])
  (refine' wpAnyH_take (i := 2) rfl (by kernel_rfl) (by kernel_rfl) (by kernel_rfl) (fun _ _ _ h => h) (Or.inl ⟨by rfl, ?_⟩) (by assumption) ?_; rotate_left; (· (intro wq hq; (try dsimp only at hq); go_simp; first | done | with_reducible rfl)); simp only [Act.put, List.getElem_toArray, List.getElem_cons_zero, List.getElem_cons_succ, List.setIfInBounds_toArray, List.set_cons_zero, List.set_cons_succ])
  (refine' wpAnyH_take (i := 3) rfl (by kernel_rfl) (by kernel_rfl) (by kernel_rfl) (fun _ _ _ h => h) (Or.inl ⟨by rfl, ?_⟩) (by assumption) ?_; rotate_left; (· (intro wq hq; (try dsimp only at hq); go_simp; first | done | with_reducible rfl)); simp only [Act.put, List.getElem_toArray, List.getElem_cons_zero, List.getElem_cons_succ, List.setIfInBounds_toArray, List.set_cons_zero, List.set_cons_succ])
  (refine' wpAnyH_take (i := 4) rfl (by kernel_rfl) (by kernel_rfl) (by kernel_rfl) (fun _ _ _ h => h) (Or.inl ⟨by rfl, ?_⟩) (by assumption) ?_; rotate_left; (· (intro wq hq; (try dsimp only at hq); go_simp; first | done | with_reducible rfl)); simp only [Act.put, List.getElem_toArray, List.getElem_cons_zero, List.getElem_cons_succ, List.setIfInBounds_toArray, List.set_cons_zero, List.set_cons_succ])
  (refine' wpAnyH_take (i := 5) rfl (by kernel_rfl) (by kernel_rfl) (by kernel_rfl) (fun _ _ _ h => h) (Or.inl ⟨by rfl, ?_⟩) (by assumption) ?_; rotate_left; (· (intro wq hq; (try dsimp only at hq); go_simp; first | done | with_reducible rfl)); simp only [Act.put, List.getElem_toArray, List.getElem_cons_zero, List.getElem_cons_succ, List.setIfInBounds_toArray, List.set_cons_zero, List.set_cons_succ])
  (refine' wpAnyH_take (i := 6) rfl (by kernel_rfl) (by kernel_rfl) (by kernel_rfl) (fun _ _ _ h => h) (Or.inl ⟨by rfl, ?_⟩) (by assumption) ?_; rotate_left; (· (intro wq hq; (try dsimp only at hq); go_simp; first | done | with_reducible rfl)); simp only [Act.put, List.getElem_toArray, List.getElem_cons_zero, List.getElem_cons_succ, List.setIfInBounds_toArray, List.set_cons_zero, List.set_cons_succ])
  (refine' wpAnyH_take (i := 7) rfl (by kernel_rfl) (by kernel_rfl) (by kernel_rfl) (fun _ _ _ h => h) (Or.inl ⟨by rfl, ?_⟩) (by assumption) ?_; rotate_left; (· (intro wq hq; (try dsimp only at hq); go_simp; first | done | with_reducible rfl)); simp only [Act.put, List.getElem_toArray, List.getElem_cons_zero, List.getElem_cons_succ, List.setIfInBounds_toArray, List.set_cons_zero, List.set_cons_succ])
  (refine' wpAnyH_take (i := 8) rfl (by kernel_rfl) (by kernel_rfl) (by kernel_rfl) (fun _ _ _ h => h) (Or.inl ⟨by rfl, ?_⟩) (by assumption) ?_; rotate_left; (· (intro wq hq; (try dsimp only at hq); go_simp; first | done | with_reducible rfl)); simp only [Act.put, List.getElem_toArray, List.getElem_cons_zero, List.getElem_cons_succ, List.setIfInBounds_toArray, List.set_cons_zero, List.set_cons_succ])
  (refine' wpAnyH_take (i := 9) rfl (by kernel_rfl) (by kernel_rfl) (by kernel_rfl) (fun _ _ _ h => h) (Or.inl ⟨by rfl, ?_⟩) (by assumption) ?_; rotate_left; (· (intro wq hq; (try dsimp only at hq); go_simp; first | done | with_reducible rfl)); simp only [Act.put, List.getElem_toArray, List.getElem_cons_zero, List.getElem_cons_succ, List.setIfInBounds_toArray, List.set_cons_zero, List.set_cons_succ])
  (refine' wpAnyH_take (i := 10) rfl (by kernel_rfl) (by kernel_rfl) (by kernel_rfl) (fun _ _ _ h => h) (Or.inl ⟨by rfl, ?_⟩) (by assumption) ?_; rotate_left; (· (intro wq hq; (try dsimp only at hq); go_simp; first | done | with_reducible rfl)); simp only [Act.put, List.getElem_toArray, List.getElem_cons_zero, List.getElem_cons_succ, List.setIfInBounds_toArray, List.set_cons_zero, List.set_cons_succ])
  refine wpAnyH_ready (rs := [11]) (by kernel_rfl) (by simp) ?_
  refine AllReadyH.cons rfl (fun K hK => ?_) ?_
  · have c1 : v0.cell? ⟨b, 1, none⟩ = some (.int .i64 (k : Int)) := P2.out.at_.cell 1
    go_simp
    refine hK.out _ _ hx0 (fun _ => ?_)
    clear hK K c1
    (refine' wpAnyH_take (i := 12) rfl (by kernel_rfl) (by kernel_rfl) (by kernel_rfl) (fun _ _ _ h => h) (Or.inl ⟨by rfl, ?_⟩) (by assumption) ?_; rotate_left; (· (intro wq hq; (try dsimp only at hq); go_simp; first | done | with_reducible rfl)); simp only [Act.put, List.getElem_toArray, List.getElem_cons_zero, List.getElem_cons_succ, List.setIfInBounds_toArray, List.set_cons_zero, List.set_cons_succ])
    refine wpAnyH_ready (rs := [13]) (by kernel_rfl) (by simp) ?_
    refine AllReadyH.cons rfl (fun K hK => ?_) ?_
    · rw [if_pos (by rfl)]
      go_simp
      refine Calls.mono (hkd.out _) ?_
      rintro e v1 ⟨rfl, hv1⟩
      rw [hv1]
      refine hK.out _ _ hx0 (fun _ => ?_)
      clear hK K hv1 hkd
      (refine' wpAnyH_take (i := 14) rfl (by kernel_rfl) (by kernel_rfl) (by kernel_rfl) (fun _ _ _ h => h) (Or.inl ⟨by rfl, ?_⟩) (by assumption) ?_; rotate_left; (· (intro wq hq; (try dsimp only at hq); go_simp; first | done | with_reducible rfl)); simp only [Act.put, List.getElem_toArray, List.getElem_cons_zero, List.getElem_cons_succ, List.setIfInBounds_toArray, List.set_cons_zero, List.set_cons_succ])
      (refine' wpAnyH_take (i := 15) rfl (by kernel_rfl) (by kernel_rfl) (by kernel_rfl) (fun _ _ _ h => h) (Or.inl ⟨by rfl, ?_⟩) (by assumption) ?_; rotate_left; (· (intro wq hq; (try dsimp only at hq); go_simp; first | done | with_reducible rfl)); simp only [Act.put, List.getElem_toArray, List.getElem_cons_zero, List.getElem_cons_succ, List.setIfInBounds_toArray, List.set_cons_zero, List.set_cons_succ])
      refine wpAnyH_ready (rs := [16]) (by kernel_rfl) (by simp) ?_
      refine AllReadyH.cons rfl (fun K hK => ?_) ?_
      · rw [if_pos (by rfl)]
        go_simp
        refine Calls.mono (hcall.out v0 P2) ?_
        rintro e v2 ⟨x, rfl, hV, hP3, hF3⟩
        obtain ⟨ko, kc, vo, vc, rfl⟩ := hV.six
        have A3 := hid (hF3.at_ A2.out (Ne.symm hpb.out))
        have P3 := hid hP3
        have F3 := hid (F2.out.trans hF3)
        have V3 := hid hV
        have hp3 : Hid (p < v2.heap.size) := by have := hF3.size; have := hsz3.out; show _ < _; omega
        refine hK.out _ _ ⟨hP3.at_.cell 0, hP3.at_.cell 2, (hP3.tk.cell n).trans htk'.out⟩ (fun _ => ?_)
        clear hK K hcall hV hP3 hF3 hx0 A2 P2 F2
        have d0 := A3.out.cell 0
        have d1 := A3.out.cell 1
        have d2 := A3.out.cell 2
        have d3 := A3.out.cell 3
        have d4 := A3.out.cell 4
        have d5 := A3.out.cell 5
        simp only [List.getElem?_toArray, List.getElem?_cons_zero, List.getElem?_cons_succ] at d0 d1 d2 d3 d4 d5
        have f0 := A3.out.frozen 0
        have f1 := A3.out.frozen 1
        have f2 := A3.out.frozen 2
        have f3 := A3.out.frozen 3
        have f4 := A3.out.frozen 4
        have f5 := A3.out.frozen 5
        refine wpAnyH_ready (rs := [17]) (by kernel_rfl) (by simp) ?_
        refine AllReadyH.cons rfl (fun K hK => ?_) ?_
        · go_simp
          have P4 := hid (P3.out.same (same_six (y0 := .int .i64 t.kind) (y1 := .bool t.b) (y2 := .string t.raw) (y3 := .string t.text) (y4 := .slice ko t.keys.length kc) (y5 := .slice vo t.kids.length vc)) hpb.out hpg.out)
          refine hK.out _ _ ⟨P4.out.at_.cell 0, P4.out.at_.cell 2, (P4.out.tk.cell n).trans htk'.out⟩ (fun _ => ?_)
          clear hK K d0 d1 d2 d3 d4 d5 f0 f1 f2 f3 f4 f5
          refine wpAnyH_done (by kernel_rfl) ?_ _
          go_wp2
          refine ret_val1 (p := 2) rfl rfl (A3.out.six) rfl ?_
          have hv0 := hsz3.out
          have hp0 := hp.out
          refine ⟨_, rfl, V3.out.kept (fun c _ hc => ?_) ⟨same_six.1, fun c hc hl => same_six.2 c ?_ hl⟩, P4.out, F3.out.six (Nat.le_of_eq hp.out) _ _ _ _ _ _⟩
          · omega
          · show c ≠ p
            omega
        exact AllReadyH.nil
      exact AllReadyH.nil
    exact AllReadyH.nil
  exact AllReadyH.nil
theorem valueP_k1 (b g : Nat) (s : ByteArray) (hs : s.size ≤ 281474976710656) (i k j : Nat) (t : Vt) (hk : Hid (IsSkip s i k)) (hks : k < s.size) (hc : Hid (kindC (byteAt s k) = 1))
    (hcall : Hid (∀ u, Hid (PaI b g s k u) → Calls Tryz.prog 26 #[.pointer (some ⟨b, 0, none⟩)] u fun e w' => ParP b g s j t u e w')) (w : World) (hP : Hid (PaI b g s i w)) :
    Calls Tryz.prog 16 #[.pointer (some ⟨b, 0, none⟩)] w fun e w' => ParP b g s j t w e w' := valueP_g b g s hs i k j t hk hks 1 26 (by decide) hc rfl (fun _ _ => by kernel_rfl) hcall w hP
theorem valueP_k2 (b g : Nat) (s : ByteArray) (hs : s.size ≤ 281474976710656) (i k j : Nat) (t : Vt) (hk : Hid (IsSkip s i k)) (hks : k < s.size) (hc : Hid (kindC (byteAt s k) = 2))
    (hcall : Hid (∀ u, Hid (PaI b g s k u) → Calls Tryz.prog 27 #[.pointer (some ⟨b, 0, none⟩)] u fun e w' => ParP b g s j t u e w')) (w : World) (hP : Hid (PaI b g s i w)) :
    Calls Tryz.prog 16 #[.pointer (some ⟨b, 0, none⟩)] w fun e w' => ParP b g s j t w e w' := valueP_g b g s hs i k j t hk hks 2 27 (by decide) hc rfl (fun _ _ => by kernel_rfl) hcall w hP
theorem valueP_k3 (b g : Nat) (s : ByteArray) (hs : s.size ≤ 281474976710656) (i k j : Nat) (t : Vt) (hk : Hid (IsSkip s i k)) (hks : k < s.size) (hc : Hid (kindC (byteAt s k) = 3))
    (hcall : Hid (∀ u, Hid (PaI b g s k u) → Calls Tryz.prog 28 #[.pointer (some ⟨b, 0, none⟩)] u fun e w' => ParP b g s j t u e w')) (w : World) (hP : Hid (PaI b g s i w)) :
    Calls Tryz.prog 16 #[.pointer (some ⟨b, 0, none⟩)] w fun e w' => ParP b g s j t w e w' := valueP_g b g s hs i k j t hk hks 3 28 (by decide) hc rfl (fun _ _ => by kernel_rfl) hcall w hP
theorem valueP_k4 (b g : Nat) (s : ByteArray) (hs : s.size ≤ 281474976710656) (i k j : Nat) (t : Vt) (hk : Hid (IsSkip s i k)) (hks : k < s.size) (hc : Hid (kindC (byteAt s k) = 4))
    (hcall : Hid (∀ u, Hid (PaI b g s k u) → Calls Tryz.prog 29 #[.pointer (some ⟨b, 0, none⟩)] u fun e w' => ParP b g s j t u e w')) (w : World) (hP : Hid (PaI b g s i w)) :
    Calls Tryz.prog 16 #[.pointer (some ⟨b, 0, none⟩)] w fun e w' => ParP b g s j t w e w' := valueP_g b g s hs i k j t hk hks 4 29 (by decide) hc rfl (fun _ _ => by kernel_rfl) hcall w hP
theorem valueP_k5 (b g : Nat) (s : ByteArray) (hs : s.size ≤ 281474976710656) (i k j : Nat) (t : Vt) (hk : Hid (IsSkip s i k)) (hks : k < s.size) (hc : Hid (kindC (byteAt s k) = 5))
    (hcall : Hid (∀ u, Hid (PaI b g s k u) → Calls Tryz.prog 30 #[.pointer (some ⟨b, 0, none⟩)] u fun e w' => ParP b g s j t u e w')) (w : World) (hP : Hid (PaI b g s i w)) :
    Calls Tryz.prog 16 #[.pointer (some ⟨b, 0, none⟩)] w fun e w' => ParP b g s j t w e w' := valueP_g b g s hs i k j t hk hks 5 30 (by decide) hc rfl (fun _ _ => by kernel_rfl) hcall w hP
theorem valueP_k6 (b g : Nat) (s : ByteArray) (hs : s.size ≤ 281474976710656) (i k j : Nat) (t : Vt) (hk : Hid (IsSkip s i k)) (hks : k < s.size) (hc : Hid (kindC (byteAt s k) = 6))
    (hcall : Hid (∀ u, Hid (PaI b g s k u) → Calls Tryz.prog 31 #[.pointer (some ⟨b, 0, none⟩)] u fun e w' => ParP b g s j t u e w')) (w : World) (hP : Hid (PaI b g s i w)) :
    Calls Tryz.prog 16 #[.pointer (some ⟨b, 0, none⟩)] w fun e w' => ParP b g s j t w e w' := valueP_g b g s hs i k j t hk hks 6 31 (by decide) hc rfl (fun _ _ => by kernel_rfl) hcall w hP
end Go.Proofs.YtkejlejhnnjdkaaGreatDoor
