/-
  A pattern in memory; clone, come.
-/
import Derived.Test.YtiggfigjibggaaaHpF
import Derived.Test.YtiggfigjibggaaaShelfF
namespace Go.Proofs.Ytiggfigjibggaaa
open Go.RowKit Go.Shelf Go.Maps

/-- An entry as entries may be. -/
def EnOk (e : Ent) : Prop := KyOk e.r e.n ∧ e.p ≤ 9223372036854775807 ∧ e.h ≤ 4611686018427387904
/-- A pattern in memory: its map's block, its row, what stands in its heap; its blocks are of S; L: its entries as they came. -/
structure PatI (w : World) (pb mb : Nat) (v : Value) (H : HpL) (S : Nat → Prop) (room came : Nat) (L : List Ent) : Prop where
  hv : HV w pb (room : Int) (came : Int) (.map (some mb)) v H
  hp : IsHp H
  mp : MpM w mb H
  pm : (H.map (·.2)).Perm L
  asc : L.Pairwise (fun x y => x.a < y.a)
  ok : ∀ e ∈ L, e.a < came ∧ EnOk e
  ln : L.length ≤ room
  rm : room ≤ 4096
  own : ∀ q, PZ pb v H q ∨ q = mb → S q
def PatM (w : World) (pb : Nat) (S : Nat → Prop) (room came : Nat) (L : List Ent) : Prop := ∃ mb v H, PatI w pb mb v H S room came L
section
variable {w w' : World} {pb mb : Nat} {v : Value} {H : HpL} {S S' : Nat → Prop} {room came : Nat} {L : List Ent}
theorem PatI.len (h : PatI w pb mb v H S room came L) : H.length = L.length := by have := h.pm.length_eq; simpa using this
theorem PatI.blk (h : PatI w pb mb v H S room came L) (q : Nat) (hq : PZ pb v H q ∨ q = mb) : q < w.heap.size := by
  rcases hq with (rfl | hq | ⟨z, hz, rfl⟩) | rfl
  · exact h.hv.box.lt
  · exact (h.hv.row.lt q hq).2
  · obtain ⟨i, hi, rfl⟩ := List.mem_iff_getElem.1 hz
    exact (h.hv.ent i _ (List.getElem?_eq_getElem hi)).lt
  · exact h.mp.lt
theorem PatI.kept (h : PatI w pb mb v H S room came L) (hb : ∀ q, S q → q < w.heap.size → w'.heap[q]? = w.heap[q]?) : PatI w' pb mb v H S room came L :=
  ⟨h.hv.kept (fun q hq hl => hb q (h.own q (.inl hq)) hl), h.hp, h.mp.kept (hb mb (h.own mb (.inr rfl)) h.mp.lt), h.pm, h.asc, h.ok, h.ln, h.rm, h.own⟩
theorem PatM.kept (h : PatM w pb S room came L) (hb : ∀ q, S q → q < w.heap.size → w'.heap[q]? = w.heap[q]?) : PatM w' pb S room came L := by
  obtain ⟨mb, v, H, h⟩ := h
  exact ⟨mb, v, H, h.kept hb⟩
theorem PatM.keptB (h : PatM w pb S room came L) (hb : Below w.heap.size w w') : PatM w' pb S room came L := h.kept (fun q _ hl => hb.block q hl)
theorem PatM.mono (h : PatM w pb S room came L) (hS : ∀ q, q < w.heap.size → S q → S' q) : PatM w pb S' room came L := by
  obtain ⟨mb, v, H, h⟩ := h
  exact ⟨mb, v, H, h.hv, h.hp, h.mp, h.pm, h.asc, h.ok, h.ln, h.rm, fun q hq => hS q (h.blk q hq) (h.own q hq)⟩
/-- The count of those that have come is stored. -/
theorem HV.cameTo {c c' : Int} {mv : Value} (h : HV w pb (room : Int) c mv v H) : HV (w.setCell ⟨pb, 1, none⟩ (.int .i64 c')) pb (room : Int) c' mv v H :=
  ⟨by simpa [patC] using h.box.set 1 (.int .i64 c'), own_setCellP h.row h.box (by decide), fun i x hi => (h.ent i x hi).other (p := ⟨pb, 1, none⟩) (fun e => at_neP h.box (h.ent i x hi) (by decide) e.symm) _, h.nd⟩
theorem HV.turned {c : Int} {H2 : HpL} (h : HV w pb (room : Int) c (.map (some mb)) v H) (hp : MpM w mb H2) (hm : w.mapTurned w' mb) : HV w' pb (room : Int) c (.map (some mb)) v H := by
  have hb : ∀ q, q < w.heap.size → q ≠ mb → w'.heap[q]? = w.heap[q]? := fun q hq hne => hm.grown.block q hq (by simpa using hne)
  refine ⟨(hb pb h.box.lt (hp.ne h.box)).trans h.box, own_onP h.row (fun g hg _ hl => hb g hl (fun e => ?_)), fun i x hi => (hb x.1 (h.ent i x hi).lt (hp.ne (h.ent i x hi))).trans (h.ent i x hi), h.nd⟩
  subst e
  obtain ⟨D, ⟨es, clock, h1, -⟩, -⟩ := hp
  rcases h.row.2 with ⟨h2, -⟩ | ⟨g', cap, cur, h2, -, h3, -⟩
  · rw [h2] at hg; cases hg
  · rw [h2] at hg
    obtain rfl : g' = g := by simpa [Value.ownBlock] using hg
    rw [h1] at h3
    cases h3
theorem mapTurned_at {b : Nat} {cs : Array Value} {t : TypeId} (h : At w b cs t) (hm : w.mapTurned w' mb) (hne : b ≠ mb) : At w' b cs t := (hm.grown.block b h.lt (by simpa using hne)).trans h
end
theorem cloneP_calls25 (s : ByteArray) (hs : s.size ≤ 281474976710656) (w : World) :
    Calls Try.prog 41 #[.string s] w fun e w' => e = .returned (.string s) ∧ Below w.heap.size w w' := by
  have hc := hid (show Calls Try.prog 52 #[.string s] w fun e w' => e = .returned (.string s) ∧ Below w.heap.size w w' from Any.stringslite_Clone Try.laysM316 s w hs)
  go_enter Try.func41, Try.ntmps41
  go_wp2_with fail
  refine Calls.mono hc.out ?_
  rintro e w1 ⟨rfl, hb⟩
  clear hc
  go_wp2
  go_ret
  exact ⟨rfl, hb⟩
/-- A learnt place by value. -/
abbrev lrA (r n : ByteArray) (p h : Int) : Value := .agg #[.string r, .string n, .int .i64 p, .int .i64 h]
/-- What come leaves. -/
def CoP (pb : Nat) (S : Nat → Prop) (room came : Nat) (L : List Ent) (e1 : Ent) (w : World) (e : Ending) (w' : World) : Prop :=
  e = .returned (.tuple #[]) ∧ Hid (PatM w' pb (fun q => S q ∨ w.heap.size ≤ q) room (came + 1) (L ++ [e1])) ∧ Hid (Lap S w w')
set_option maxRecDepth 10000 in
set_option maxHeartbeats 8000000 in
theorem come_calls (pb mb : Nat) (v : Value) (H : HpL) (S : Nat → Prop) (room came : Nat) (L : List Ent) (hc : came < 4611686018427387904) (r n : ByteArray) (p h : Nat) (hok : EnOk ⟨r, n, p, h, came⟩) (hno : Hid (∀ x ∈ H, ¬ (x.2.r = r ∧ x.2.n = n))) (hl : Hid (L.length < room)) (w : World) (hP : Hid (PatI w pb mb v H S room came L)) :
    Calls Try.prog 25 #[ptB pb, lrA r n (p : Int) (h : Int)] w fun e w' => CoP pb S room came L ⟨r, n, p, h, came⟩ w e w' := by
  have hrz : r.size ≤ 281474976710656 := by have h1 := hok.1.1; dsimp only at h1; omega
  have hnz : n.size ≤ 281474976710656 := by have h1 := hok.1.2; dsimp only at h1; omega
  have hok' := hid hok
  have hci : (came : Int) + 1 ≤ 4611686018427387904 := by omega
  obtain ⟨X, hX⟩ : ∃ X, w.heap.size = X := ⟨_, rfl⟩
  obtain ⟨W0, hW0⟩ : ∃ W, w.alloc (.cells #[.string r, .string n, .int .i64 (p : Int), .int .i64 (h : Int)] 25) = W := ⟨_, rfl⟩
  have b0 : Below w.heap.size w W0 := by rw [← hW0]; exact (Below.refl _ w).alloc (Nat.le_refl _) _
  have A0 : At W0 X #[.string r, .string n, .int .i64 (p : Int), .int .i64 (h : Int)] 25 := by rw [← hW0, ← hX]; exact At.new _ _ _
  have hSu := hid (fun (u : World) (hu : Below W0.heap.size W0 u) => (show u.cell? ⟨X, 0, none⟩ = some (.string r) ∧ u.cell? ⟨X, 1, none⟩ = some (.string n) ∧ u.cell? ⟨X, 2, none⟩ = some (.int .i64 (p : Int)) ∧ u.cell? ⟨X, 3, none⟩ = some (.int .i64 (h : Int)) ∧ u.cell? ⟨pb, 1, none⟩ = some (.int .i64 (came : Int)) from by
    have a1 := A0.keptAll hu
    have a2 := (hP.out.hv.box.keptAll b0).keptAll hu
    exact ⟨a1.cell 0, a1.cell 1, a1.cell 2, a1.cell 3, a2.cell 1⟩))
  have hcl := hid (fun (u : World) => cloneP_calls25 r hrz u)
  have hcl2 := hid (fun (u : World) => cloneP_calls25 n hnz u)
  have B0 := hid b0
  clear hok b0 A0
  go_enter Try.func25, Try.ntmps25
  go_wp2_with fail
  rename_i Kr hKr
  refine wp_region_held_drew (S := fun u => (u.cell? ⟨X, 0, none⟩ = some (.string r) ∧ u.cell? ⟨X, 1, none⟩ = some (.string n) ∧ u.cell? ⟨X, 2, none⟩ = some (.int .i64 (p : Int)) ∧ u.cell? ⟨X, 3, none⟩ = some (.int .i64 (h : Int)) ∧ u.cell? ⟨pb, 1, none⟩ = some (.int .i64 (came : Int))) ∧ Below W0.heap.size W0 u) (by kernel_rfl) ⟨hSu.out _ (below_drewN _ _ 1), below_drewN _ _ 1⟩ (fun hH => ?_)
  (refine' wpAnyH_take (i := 0) rfl (by kernel_rfl) (by kernel_rfl) (by kernel_rfl) (fun _ _ _ h => h) (Or.inl ⟨by rfl, ?_⟩) (by assumption) ?_; rotate_left; (· (intro wq hq; (try dsimp only at hq); go_simp; first | done | with_reducible rfl)); simp only [Act.put, List.getElem_toArray, List.getElem_cons_zero, List.setIfInBounds_toArray, List.set_cons_zero, List.set_cons_succ])
  (refine' wpAnyH_take (i := 1) rfl (by kernel_rfl) (by kernel_rfl) (by kernel_rfl) (fun _ _ _ h => h) (Or.inl ⟨by rfl, ?_⟩) (by assumption) ?_; rotate_left; (· (intro wq hq; (try dsimp only at hq); go_simp; first | done | with_reducible rfl)); simp only [Act.put, List.getElem_toArray, List.getElem_cons_zero, List.getElem_cons_succ, List.setIfInBounds_toArray, List.set_cons_zero, List.set_cons_succ])
  (refine' wpAnyH_take (i := 3) rfl (by kernel_rfl) (by kernel_rfl) (by kernel_rfl) (fun _ _ _ h => h) (Or.inl ⟨by rfl, ?_⟩) (by assumption) ?_; rotate_left; (· (intro wq hq; (try dsimp only at hq); go_simp; first | done | with_reducible rfl)); simp only [Act.put, List.getElem_toArray, List.getElem_cons_zero, List.getElem_cons_succ, List.setIfInBounds_toArray, List.set_cons_zero, List.set_cons_succ])
  (refine' wpAnyH_take (i := 4) rfl (by kernel_rfl) (by kernel_rfl) (by kernel_rfl) (fun _ _ _ h => h) (Or.inl ⟨by rfl, ?_⟩) (by assumption) ?_; rotate_left; (· (intro wq hq; (try dsimp only at hq); go_simp; first | done | with_reducible rfl)); simp only [Act.put, List.getElem_toArray, List.getElem_cons_zero, List.getElem_cons_succ, List.setIfInBounds_toArray, List.set_cons_zero, List.set_cons_succ])
  (refine' wpAnyH_take (i := 7) rfl (by kernel_rfl) (by kernel_rfl) (by kernel_rfl) (fun _ _ _ h => h) (Or.inl ⟨by rfl, ?_⟩) (by assumption) ?_; rotate_left; (· (intro wq hq; (try dsimp only at hq); go_simp; first | done | with_reducible rfl)); simp only [Act.put, List.getElem_toArray, List.getElem_cons_zero, List.getElem_cons_succ, List.setIfInBounds_toArray, List.set_cons_zero, List.set_cons_succ])
  (refine' wpAnyH_take (i := 8) rfl (by kernel_rfl) (by kernel_rfl) (by kernel_rfl) (fun _ _ _ h => h) (Or.inl ⟨by rfl, ?_⟩) (by assumption) ?_; rotate_left; (· (intro wq hq; (try dsimp only at hq); go_simp; first | done | with_reducible rfl)); simp only [Act.put, List.getElem_toArray, List.getElem_cons_zero, List.getElem_cons_succ, List.setIfInBounds_toArray, List.set_cons_zero, List.set_cons_succ])
  (refine' wpAnyH_take (i := 9) rfl (by kernel_rfl) (by kernel_rfl) (by kernel_rfl) (fun _ _ _ h => h) (Or.inl ⟨by rfl, ?_⟩) (by assumption) ?_; rotate_left; (· (intro wq hq; (try dsimp only at hq); go_simp; first | done | with_reducible rfl)); simp only [Act.put, List.getElem_toArray, List.getElem_cons_zero, List.getElem_cons_succ, List.setIfInBounds_toArray, List.set_cons_zero, List.set_cons_succ])
  (refine' wpAnyH_take (i := 10) rfl (by kernel_rfl) (by kernel_rfl) (by kernel_rfl) (fun _ _ _ h => h) (Or.inl ⟨by rfl, ?_⟩) (by assumption) ?_; rotate_left; (· (intro wq hq; (try dsimp only at hq); go_simp; first | done | with_reducible rfl)); simp only [Act.put, List.getElem_toArray, List.getElem_cons_zero, List.getElem_cons_succ, List.setIfInBounds_toArray, List.set_cons_zero, List.set_cons_succ])
  (refine' wpAnyH_take (i := 11) rfl (by kernel_rfl) (by kernel_rfl) (by kernel_rfl) (fun _ _ _ h => h) (Or.inl ⟨by rfl, ?_⟩) (by assumption) ?_; rotate_left; (· (intro wq hq; (try dsimp only at hq); go_simp; first | done | with_reducible rfl)); simp only [Act.put, List.getElem_toArray, List.getElem_cons_zero, List.getElem_cons_succ, List.setIfInBounds_toArray, List.set_cons_zero, List.set_cons_succ])
  (refine' wpAnyH_take (i := 12) rfl (by kernel_rfl) (by kernel_rfl) (by kernel_rfl) (fun _ _ _ h => h) (Or.inl ⟨by rfl, ?_⟩) (by assumption) ?_; rotate_left; (· (intro wq hq; (try dsimp only at hq); go_simp; first | done | with_reducible rfl)); simp only [Act.put, List.getElem_toArray, List.getElem_cons_zero, List.getElem_cons_succ, List.setIfInBounds_toArray, List.set_cons_zero, List.set_cons_succ])
  (refine' wpAnyH_take (i := 13) rfl (by kernel_rfl) (by kernel_rfl) (by kernel_rfl) (fun _ _ _ h => h) (Or.inl ⟨by rfl, ?_⟩) (by assumption) ?_; rotate_left; (· (intro wq hq; (try dsimp only at hq); go_simp; first | done | with_reducible rfl)); simp only [Act.put, List.getElem_toArray, List.getElem_cons_zero, List.getElem_cons_succ, List.setIfInBounds_toArray, List.set_cons_zero, List.set_cons_succ])
  (refine' wpAnyH_take (i := 14) rfl (by kernel_rfl) (by kernel_rfl) (by kernel_rfl) (fun _ _ _ h => h) (Or.inl ⟨by rfl, ?_⟩) (by assumption) ?_; rotate_left; (· (intro wq hq; (try dsimp only at hq); go_simp; first | done | with_reducible rfl)); simp only [Act.put, List.getElem_toArray, List.getElem_cons_zero, List.getElem_cons_succ, List.setIfInBounds_toArray, List.set_cons_zero, List.set_cons_succ])
  refine wpAnyH_ready (rs := [2]) (by kernel_rfl) (by simp) ?_
  refine AllReadyH.cons rfl (fun K hK => ?_) ?_
  rotate_left
  · exact AllReadyH.nil
  rw [if_pos (by rfl)]
  go_simp
  refine Calls.mono (hcl.out _) ?_
  rintro e w1 ⟨rfl, b1⟩
  have B1 := hid (show Below W0.heap.size W0 w1 from (below_drewN W0.heap.size W0 1).trans (b1.mono (Nat.le_refl _)))
  refine hK.out _ _ ⟨hSu.out _ B1.out, B1.out⟩ (fun hH1 => ?_)
  clear hK K b1
  refine wpAnyH_ready (rs := [5]) (by kernel_rfl) (by simp) ?_
  refine AllReadyH.cons rfl (fun K hK => ?_) ?_
  rotate_left
  · exact AllReadyH.nil
  rw [if_pos (by rfl)]
  go_simp
  refine Calls.mono (hcl2.out _) ?_
  rintro e w2 ⟨rfl, b2⟩
  have B2 := hid (show Below W0.heap.size W0 w2 from B1.out.trans (b2.mono B1.out.size))
  refine hK.out _ _ ⟨hSu.out _ B2.out, B2.out⟩ (fun hH2 => ?_)
  clear hK K b2
  (refine' wpAnyH_take (i := 6) rfl (by kernel_rfl) (by kernel_rfl) (by kernel_rfl) (fun _ _ _ h => h) (Or.inl ⟨by rfl, ?_⟩) (by assumption) ?_; rotate_left; (· (intro wq hq; (try dsimp only at hq); go_simp; first | done | with_reducible rfl)); simp only [Act.put, List.getElem_toArray, List.getElem_cons_zero, List.getElem_cons_succ, List.setIfInBounds_toArray, List.set_cons_zero, List.set_cons_succ])
  (refine' wpAnyH_take (i := 15) rfl (by kernel_rfl) (by kernel_rfl) (by kernel_rfl) (fun _ _ _ h => h) (Or.inl ⟨by rfl, ?_⟩) (by assumption) ?_; rotate_left; (· (intro wq hq; (try dsimp only at hq); go_simp; first | done | with_reducible rfl)); simp only [Act.put, List.getElem_toArray, List.getElem_cons_zero, List.getElem_cons_succ, List.setIfInBounds_toArray, List.set_cons_zero, List.set_cons_succ])
  refine wpAnyH_ready (rs := [16]) (by kernel_rfl) (by simp) ?_
  refine AllReadyH.cons rfl (fun K hK => ?_) ?_
  rotate_left
  · exact AllReadyH.nil
  rw [if_pos (by rfl)]
  go_simp
  obtain ⟨b, hb⟩ : ∃ b, w2.heap.size = b := ⟨_, rfl⟩
  obtain ⟨W3, hW3⟩ : ∃ W, w2.alloc (.cells #[.string r, .string n, .int .i64 (p : Int), .int .i64 (h : Int), .int .i64 (came : Int), .int .i64 0] 78) = W := ⟨_, rfl⟩
  have b3 : Below w2.heap.size w2 W3 := by rw [← hW3]; exact (Below.refl _ w2).alloc (Nat.le_refl _) _
  have A3 := hid (show At W3 b (entC ⟨r, n, p, h, came⟩ 0) 78 by rw [← hW3, ← hb]; exact At.new _ _ _)
  have B3 := hid (show Below W0.heap.size W0 W3 from B2.out.trans (b3.mono B2.out.size))
  have Bw3 := hid (show Below w.heap.size w W3 from B0.out.trans (B3.out.mono B0.out.size))
  have hbge := hid (show w.heap.size ≤ b by rw [← hb]; exact Nat.le_trans B0.out.size B2.out.size)
  rw [hW3, hb]
  refine hK _ _ ⟨hSu.out _ B3.out, B3.out⟩ (fun hH3 => ?_)
  clear hK K b3 hW3 hb hSu hcl hcl2 B1 B2 B3 B0 hW0 hX hH hH1 hH2
  (refine' wpAnyH_take (i := 17) rfl (by kernel_rfl) (by kernel_rfl) (by kernel_rfl) (fun _ _ _ h => h) (Or.inl ⟨by rfl, ?_⟩) (by assumption) ?_; rotate_left; (· (intro wq hq; (try dsimp only at hq); go_simp; first | done | with_reducible rfl)); simp only [Act.put, List.getElem_toArray, List.getElem_cons_zero, List.getElem_cons_succ, List.setIfInBounds_toArray, List.set_cons_zero, List.set_cons_succ])
  refine wpAnyH_done (by kernel_rfl) ?_ _
  refine hKr _ _ ?_
  clear hKr Kr hH3 w1 w2
  have HV3 := hid (hP.out.hv.keptB Bw3.out)
  have hci2 : (came : Int) ≤ 4611686018427387904 := by omega
  have HV4 := hid (HV3.out.cameTo (c' := (came : Int) + 1))
  have A4 := hid (A3.out.other (p := ⟨pb, 1, none⟩) (fun e => at_neP HV3.out.box A3.out (by decide) e.symm) (.int .i64 ((came : Int) + 1)))
  have M3 := hP.out.mp.kept (w' := W3) (Bw3.out.block mb hP.out.mp.lt)
  have M4 := hid (M3.kept (w' := W3.setCell ⟨pb, 1, none⟩ (.int .i64 ((came : Int) + 1))) (Below.heap_setCell W3 ⟨pb, 1, none⟩ _ mb (fun e => M3.ne HV3.out.box e.symm)))
  have L4 := hid ((Lap.of (Z := S) Bw3.out).setCell ⟨pb, 1, none⟩ (hP.out.own pb (.inl (.inl rfl))) (.int .i64 ((came : Int) + 1)))
  have c1 := HV3.out.box.cell 1
  have f1 := HV3.out.box.frozen 1
  simp only [patC, List.getElem?_toArray, List.getElem?_cons_succ, List.getElem?_cons_zero] at c1
  clear M3 HV3 A3 Bw3
  obtain ⟨W4, hW4⟩ : ∃ W, W3.setCell ⟨pb, 1, none⟩ (.int .i64 ((came : Int) + 1)) = W := ⟨_, rfl⟩
  rw [hW4] at HV4 A4 M4 L4
  go_wp2_with fail
  rename_i Kr hKr
  have c2 : W4.drew.cell? ⟨pb, 2, none⟩ = some (.map (some mb)) := HV4.out.box.drew.cell 2
  have rk : W4.drew.rangeAt b 0 [.string r, .string n] := fun j u hj => by
    have h5 := A4.out.drew.cell j
    rw [Nat.zero_add, h5]
    match j, hj with
    | 0, hj => simpa [entC] using hj
    | 1, hj => simpa [entC] using hj
    | j + 2, hj => simp at hj
  have HV4d := hid (HV4.out.keptB (w' := W4.drew) (below_drewN _ _ 1))
  have A4d := hid A4.out.drew
  have M4d := hid (M4.out.kept (w' := W4.drew) rfl)
  have L4d := hid L4.out.drew
  obtain ⟨W5, hrun, M5, ht⟩ := M4d.out.store b ⟨r, n, p, h, came⟩ hok'.out.1 hno.out (by have := hP.out.len; have := hP.out.ln; have := hP.out.rm; omega)
  have hrun : (Instr.mapUpdate 61 (.map (some mb)) (.agg #[.string r, .string n]) (ptB b)).run Try.prog W4.drew = .ok () W5 := hrun
  have HV5 := hid (HV4d.out.turned M4d.out ht)
  have A5 := hid (mapTurned_at A4d.out ht (M4d.out.ne A4d.out))
  have L5 := hid (L4d.out.grown ht.grown (fun k hk _ => by cases hk; exact hP.out.own mb (.inr rfl)))
  have M5 := hid M5
  have hs5 := hid (show w.heap.size ≤ W5.heap.size from L5.out.size)
  have hnb : Hid (b ∉ H.map (·.1)) := by
    intro hb
    obtain ⟨z, hz, e⟩ := List.mem_map.1 hb
    have := hP.out.blk z.1 (.inl (.inr (.inr ⟨z, hz, rfl⟩)))
    have := hbge.out
    have e' : z.1 = b := e
    omega
  have hpu := hid (push_calls pb (room : Int) ((came : Int) + 1) (.map (some mb)) v H (by have := hP.out.len; have := hP.out.ln; have := hP.out.rm; omega) b ⟨r, n, p, h, came⟩ 0 (hid hP.out.hp) hnb W5 HV5 A5)
  clear HV4 A4 M4 L4 HV4d A4d L4d c1 f1
  have hS5 := hid (show W5.cell? ⟨pb, 2, none⟩ = some (.map (some mb)) ∧ W5.rangeAt b 0 [.string r, .string n] from ⟨HV5.out.box.cell 2, fun j u hj => by
    have h5 := A5.out.cell j
    rw [Nat.zero_add, h5]
    match j, hj with
    | 0, hj => simpa [entC] using hj
    | 1, hj => simpa [entC] using hj
    | j + 2, hj => simp at hj⟩)
  refine wp_region_held_drew (S := fun u => u.cell? ⟨pb, 2, none⟩ = some (.map (some mb)) ∧ u.rangeAt b 0 [.string r, .string n]) (by kernel_rfl) ⟨c2, rk⟩ (fun hH => ?_)
  (refine' wpAnyH_take (i := 0) rfl (by kernel_rfl) (by kernel_rfl) (by kernel_rfl) (fun _ _ _ h => h) (Or.inl ⟨by rfl, ?_⟩) (by assumption) ?_; rotate_left; (· (intro wq hq; (try dsimp only at hq); go_simp; first | done | with_reducible rfl)); simp only [Act.put, List.getElem_toArray, List.getElem_cons_zero, List.setIfInBounds_toArray, List.set_cons_zero, List.set_cons_succ])
  (refine' wpAnyH_take (i := 1) rfl (by kernel_rfl) (by kernel_rfl) (by kernel_rfl) (fun _ _ _ h => h) (Or.inl ⟨by rfl, ?_⟩) (by assumption) ?_; rotate_left; (· (intro wq hq; (try dsimp only at hq); go_simp; first | done | with_reducible rfl)); simp only [Act.put, List.getElem_toArray, List.getElem_cons_zero, List.getElem_cons_succ, List.setIfInBounds_toArray, List.set_cons_zero, List.set_cons_succ])
  (refine' wpAnyH_take (i := 2) rfl (by kernel_rfl) (by kernel_rfl) (by kernel_rfl) (fun _ _ _ h => h) (Or.inl ⟨by rfl, ?_⟩) (by assumption) ?_; rotate_left; (· (intro wq hq; (try dsimp only at hq); go_simp; first | done | with_reducible rfl)); simp only [Act.put, List.getElem_toArray, List.getElem_cons_zero, List.getElem_cons_succ, List.setIfInBounds_toArray, List.set_cons_zero, List.set_cons_succ])
  (refine' wpAnyH_take (i := 3) rfl (by kernel_rfl) (by kernel_rfl) (by kernel_rfl) (fun _ _ _ h => h) (Or.inl ⟨by rfl, ?_⟩) (by assumption) ?_; rotate_left; (· (intro wq hq; (try dsimp only at hq); go_simp; first | done | with_reducible rfl)); simp only [Act.put, List.getElem_toArray, List.getElem_cons_zero, List.getElem_cons_succ, List.setIfInBounds_toArray, List.set_cons_zero, List.set_cons_succ])
  (refine' wpAnyH_take (i := 4) rfl (by kernel_rfl) (by kernel_rfl) (by kernel_rfl) (fun _ _ _ h => h) (Or.inl ⟨by rfl, ?_⟩) (by assumption) ?_; rotate_left; (· (intro wq hq; (try dsimp only at hq); go_simp; first | done | with_reducible rfl)); simp only [Act.put, List.getElem_toArray, List.getElem_cons_zero, List.getElem_cons_succ, List.setIfInBounds_toArray, List.set_cons_zero, List.set_cons_succ])
  (refine' wpAnyH_take (i := 5) rfl (by kernel_rfl) (by kernel_rfl) (by kernel_rfl) (fun _ _ _ h => h) (Or.inl ⟨by rfl, ?_⟩) (by assumption) ?_; rotate_left; (· (intro wq hq; (try dsimp only at hq); go_simp; first | done | with_reducible rfl)); simp only [Act.put, List.getElem_toArray, List.getElem_cons_zero, List.getElem_cons_succ, List.setIfInBounds_toArray, List.set_cons_zero, List.set_cons_succ])
  (refine' wpAnyH_take (i := 6) rfl (by kernel_rfl) (by kernel_rfl) (by kernel_rfl) (fun _ _ _ h => h) (Or.inl ⟨by rfl, ?_⟩) (by assumption) ?_; rotate_left; (· (intro wq hq; (try dsimp only at hq); go_simp; first | done | with_reducible rfl)); simp only [Act.put, List.getElem_toArray, List.getElem_cons_zero, List.getElem_cons_succ, List.setIfInBounds_toArray, List.set_cons_zero, List.set_cons_succ])
  (refine wpAnyH_take (i := 7) (v := .agg [.string r, .string n].toArray) rfl (by kernel_rfl) (by kernel_rfl) (by kernel_rfl) (fun _ _ _ h => h) (yieldsIf_load_mid (by rfl) 74 _ rfl (b) 0 rfl [.string r, .string n] _ (fun wq hq => hq.2) Try.underlying74 rfl (by kernel_rfl)) (by assumption) ?_; simp only [Act.put, List.getElem_toArray, List.getElem_cons_zero, List.getElem_cons_succ, List.setIfInBounds_toArray, List.set_cons_zero, List.set_cons_succ])
  (refine' wpAnyH_take (i := 8) rfl (by kernel_rfl) (by kernel_rfl) (by kernel_rfl) (fun _ _ _ h => h) (Or.inl ⟨by rfl, ?_⟩) (by assumption) ?_; rotate_left; (· (intro wq hq; (try dsimp only at hq); go_simp; first | done | with_reducible rfl)); simp only [Act.put, List.getElem_toArray, List.getElem_cons_zero, List.getElem_cons_succ, List.setIfInBounds_toArray, List.set_cons_zero, List.set_cons_succ])
  refine wpAnyH_ready (rs := [9]) (by kernel_rfl) (by simp) ?_
  refine AllReadyH.cons rfl (fun K hK => ?_) ?_
  rotate_left
  · exact AllReadyH.nil
  rw [if_pos (by rfl)]
  go_simp
  refine hK _ _ ⟨hS5.out.1, hS5.out.2⟩ (fun hH5 => ?_)
  clear hK K hH5 hH hrun rk c2
  refine wpAnyH_done (by kernel_rfl) ?_ _
  refine hKr _ _ ?_
  clear hKr Kr
  go_wp2_with fail
  refine Calls.mono hpu.out ?_
  rintro e w6 ⟨rfl, v', H', hp', hi', hv6, hloc, hl6⟩
  have hM6 := hid (show MpM w6 mb H' from (M5.out.kept (hl6.out.block mb M5.out.lt (fun hz => by
    rcases hz with (rfl | hz | ⟨z, hz, rfl⟩) | rfl
    · exact M5.out.ne HV5.out.box rfl
    · rcases HV5.out.row.2 with ⟨h2, -⟩ | ⟨g', cap, cur, h2, -, h3, -⟩
      · rw [h2] at hz; cases hz
      · rw [h2] at hz
        obtain rfl : g' = mb := by simpa [Value.ownBlock] using hz
        obtain ⟨D, ⟨es, clock, h1, -⟩, -⟩ := M5.out
        rw [h1] at h3
        cases h3
    · obtain ⟨i, hi, rfl⟩ := List.mem_iff_getElem.1 hz
      exact M5.out.ne (HV5.out.ent i _ (List.getElem?_eq_getElem hi)) rfl
    · exact M5.out.ne A5.out rfl))).perm hp'.out)
  have hfin := hid (show PatM w6 pb (fun q => S q ∨ w.heap.size ≤ q) room (came + 1) (L ++ [⟨r, n, p, h, came⟩]) from by
    refine ⟨mb, v', H', ?_, hi'.out, hM6.out, ?_, ?_, ?_, ?_, hP.out.rm, ?_⟩
    · have := hv6.out
      simpa using this
    · have h1 := hp'.out.map (·.2)
      rw [List.map_append] at h1
      exact h1.trans (List.Perm.append_right _ hP.out.pm)
    · rw [List.pairwise_append]
      refine ⟨hP.out.asc, by simp, fun x hx y hy => ?_⟩
      obtain rfl := List.mem_singleton.1 hy
      exact (hP.out.ok x hx).1
    · intro x hx
      rcases List.mem_append.1 hx with hx | hx
      · have := hP.out.ok x hx
        exact ⟨by omega, this.2⟩
      · obtain rfl := List.mem_singleton.1 hx
        exact ⟨Nat.lt_succ_self _, hok'.out⟩
    · have := hl.out
      simp
      omega
    · intro q hq
      rcases hq with (rfl | hq | ⟨z, hz, rfl⟩) | rfl
      · exact .inl (hP.out.own q (.inl (.inl rfl)))
      · rcases hloc.out with h1 | h1
        · rw [h1] at hq
          exact .inl (hP.out.own q (.inl (.inr (.inl hq))))
        · exact .inr (Nat.le_trans hs5.out (h1 q hq))
      · rcases List.mem_append.1 (hp'.out.mem_iff.1 hz) with hz | hz
        · exact .inl (hP.out.own z.1 (.inl (.inr (.inr ⟨z, hz, rfl⟩))))
        · obtain rfl := List.mem_singleton.1 hz
          exact .inr hbge.out
      · exact .inl (hP.out.own q (.inr rfl)))
  have hlap := hid (show Lap S w w6 from L5.out.trans hl6.out (fun q hq hz => by
    rcases hz with hz | rfl
    · exact hP.out.own q (.inl hz)
    · have := hbge.out
      omega))
  clear hpu
  go_wp2
  go_end0
  exact ⟨rfl, hfin, hlap⟩
end Go.Proofs.Ytiggfigjibggaaa
