/-
  The walk of quarrylaw04.BitmapAsks.
-/
import Derived.Test.YtmbkcnhkbpaagaaDoorLawKit
import Derived.Test.YtmbkcnhkbpaagaaDoorRefAsks
namespace Go.Proofs.YtmbkcnhkbpaagaaDoor
open Go.RowKit Go.Shelf

/-- The row that came in and the one that was lent; all that lay there before. -/
def AskC (w : World) (n : Int) (ao : Option Addr) (k cap g c p : Nat) (X : Nat → Nat) (w' : World) : Prop :=
  At w' w.heap.size #[.int .i64 n, .slice ao k cap] 24 ∧ At w' p #[.int .i64 n, .slice (some ⟨g, 0, none⟩) k c] 24 ∧ LentB w' g c k X ∧ Below w.heap.size w w'
theorem AskC.kept {w : World} {n : Int} {ao : Option Addr} {k cap g c p : Nat} {X : Nat → Nat} {w1 w2 : World} (h : AskC w n ao k cap g c p X w1) (hb : Below w1.heap.size w1 w2) : AskC w n ao k cap g c p X w2 :=
  ⟨h.1.keptAll hb, h.2.1.keptAll hb, LentW.kept h.2.2.1 hb, h.2.2.2.trans (hb.mono h.2.2.2.size)⟩

theorem AskC.one {w : World} {n : Int} {ao : Option Addr} {k cap g c p : Nat} {X : Nat → Nat} {w1 : World} (h : AskC w n ao k cap g c p X w1) : At w1 w.heap.size #[.int .i64 n, .slice ao k cap] 24 := h.1
theorem AskC.two {w : World} {n : Int} {ao : Option Addr} {k cap g c p : Nat} {X : Nat → Nat} {w1 : World} (h : AskC w n ao k cap g c p X w1) : At w1 p #[.int .i64 n, .slice (some ⟨g, 0, none⟩) k c] 24 := h.2.1
theorem AskC.lent {w : World} {n : Int} {ao : Option Addr} {k cap g c p : Nat} {X : Nat → Nat} {w1 : World} (h : AskC w n ao k cap g c p X w1) : LentB w1 g c k X := h.2.2.1
theorem AskC.below {w : World} {n : Int} {ao : Option Addr} {k cap g c p : Nat} {X : Nat → Nat} {w1 : World} (h : AskC w n ao k cap g c p X w1) : Below w.heap.size w w1 := h.2.2.2
theorem AskC.wds {w : World} {n : Int} {ao : Option Addr} {k cap g c p : Nat} {X : Nat → Nat} {w1 : World} (h : AskC w n ao k cap g c p X w1) (hX : ∀ j, j < k → X j < 18446744073709551616) : Wds w1 (some ⟨g, 0, none⟩) k X := LentB.wds h.2.2.1 hX

set_option maxRecDepth 10000 in
set_option maxHeartbeats 8000000 in
theorem bitmapAsks_walk (n : Int) (ao : Option Addr) (k cap : Nat) (X : Nat → Nat) (hn : (Lit.int .i64 n).wf = true) (hk : k ≤ 1048576) (i : Int) (hi : (Lit.int .i64 i).wf = true) (t : Int) (ht : (Lit.int .i64 t).wf = true) (w : World) (hT : Tab w) (h0 : 0 < w.heap.size) (hW : Wds w ao k X) :
    Calls Tryd.prog 5 #[bv n ao k cap, .int .i64 i, .int .i64 t] w fun e w' => e = .returned (.bool true) ∧ Below w.heap.size w w' := by
  obtain ⟨N, hE0⟩ := Eff.get n k X
  have hE := hid hE0
  obtain ⟨G, hG⟩ : ∃ G, Hid (getB X N i = G) := ⟨_, rfl⟩
  obtain ⟨C1, hC1⟩ : ∃ c, Hid (cntIn X N i t = c) := ⟨_, rfl⟩
  obtain ⟨C2, hC2⟩ : ∃ c, Hid (cntIn X N t i = c) := ⟨_, rfl⟩
  obtain ⟨S1, hS1⟩ : ∃ s, Hid (IsSel X N i s) := sel_ex X N i
  obtain ⟨S2, hS2⟩ : ∃ s, Hid (IsNext X N i s) := next_ex X N i
  obtain ⟨S3, hS3⟩ : ∃ s, Hid (IsLast X N i s) := last_ex X N i
  obtain ⟨S4, hS4⟩ : ∃ s, Hid (IsSel X N t s) := sel_ex X N t
  obtain ⟨S5, hS5⟩ : ∃ s, Hid (IsNext X N t s) := next_ex X N t
  obtain ⟨S6, hS6⟩ : ∃ s, Hid (IsLast X N t s) := last_ex X N t
  have hX := hid (fun j hj => (hW j hj).1)
  have hW' := hid hW
  have hT' := hid hT
  have hn' := hid hn
  have hi' := hid hi
  have ht' := hid ht
  have hk2 : k ≤ 17592186044416 := by omega
  have hk3 : k ≤ 17592186043904 := by omega
  clear hE0 hW hT hn hi ht
  have hB0 : Below w.heap.size w (w.alloc (.cells #[.int .i64 n, .slice ao k cap] 24)) := (Below.refl _ _).alloc (Nat.le_refl _) _
  have K0 := hid (At.new w #[.int .i64 n, .slice ao k cap] 24)
  go_enter Tryd.func5, Tryd.ntmps5
  go_wp2_with fail
  refine Calls.mono (lentB_calls n ao k cap X hk3 _ (hW'.out.kept hB0)) ?_
  rintro e w1 ⟨g, c, rfl, hg, hL, hb⟩
  have A1 : AskC w n ao k cap g c w1.heap.size X (w1.alloc (.cells #[.int .i64 n, .slice (some ⟨g, 0, none⟩) k c] 24)) :=
    ⟨(K0.out.keptAll hb).alloc _, At.new w1 _ _, LentW.kept hL ((Below.refl _ _).alloc (Nat.le_refl _) _), (hB0.trans (hb.mono hB0.size)).alloc (Nat.le_trans hB0.size hb.size) _⟩
  obtain ⟨p, hp⟩ : ∃ p, w1.heap.size = p := ⟨_, rfl⟩
  rw [hp] at A1
  have A1' := hid A1
  clear hB0 K0 hg hL hb A1
  go_wp2
  generalize w1.alloc (.cells #[.int .i64 n, .slice (some ⟨g, 0, none⟩) k c] 24) = w2 at *
  clear hp
  refine wp_region_quiet (C := (fun w' => AskC w n ao k cap g c p X w')) (by kernel_rfl) (by kernel_rfl) (A1'.out.kept ((Below.refl _ _).drew)) ?_
  dsimp only
  repeat (first
    | (refine wpQuiet_skip (by rfl) ?_; simp only [Act.put, List.setIfInBounds_toArray, List.set_cons_zero, List.set_cons_succ])
    | (refine wpQuiet_load 24 _ (w.heap.size) (0) [.int .i64 n, .slice ao k cap] _ (fun wq hq => At.range (AskC.one hq) rfl) Tryd.underlying24 sizeBits rfl rfl rfl (by rfl) ?_; simp only [Act.put, List.setIfInBounds_toArray, List.set_cons_zero, List.set_cons_succ])
    | (refine wpQuiet_load 24 _ (p) (0) [.int .i64 n, .slice (some ⟨g, 0, none⟩) k c] _ (fun wq hq => At.range (AskC.two hq) rfl) Tryd.underlying24 sizeBits rfl rfl rfl (by rfl) ?_; simp only [Act.put, List.setIfInBounds_toArray, List.set_cons_zero, List.set_cons_succ])
    | (refine' wpQuiet_take (by rfl) ?_ ?_
       rotate_left
       · (intro wq hq; (try dsimp only at hq); go_simp
          first
            | done
            | with_reducible rfl
            | (go_at_call 20; with_reducible refine (get_calls n i (some ⟨g, 0, none⟩) k c X N G hn'.out hi'.out hk2 hE hG _ (AskC.wds hq hX.out)).mono ?_; rintro e wz ⟨rfl, hb⟩; exact ⟨rfl, AskC.kept hq hb⟩)
            | (go_at_call 21; with_reducible refine (refGet_calls n i ao k cap X N G hn'.out hi'.out hk2 hE hG _ (hW'.out.kept (AskC.below hq))).mono ?_; rintro e wz ⟨rfl, hb⟩; exact ⟨rfl, AskC.kept hq hb⟩)
            | (go_at_call 22; with_reducible refine (count_calls n i t (some ⟨g, 0, none⟩) k c X N C1 hn'.out hi'.out ht'.out hk2 hE hC1 _ (AskC.wds hq hX.out)).mono ?_; rintro e wz ⟨rfl, hb⟩; exact ⟨rfl, AskC.kept hq hb⟩)
            | (go_at_call 23; with_reducible refine (refCount_calls n i t ao k cap X N C1 hn'.out hk hE hC1 _ (hW'.out.kept (AskC.below hq))).mono ?_; rintro e wz ⟨rfl, hb⟩; exact ⟨rfl, AskC.kept hq hb⟩)
            | (go_at_call 22; with_reducible refine (count_calls n t i (some ⟨g, 0, none⟩) k c X N C2 hn'.out ht'.out hi'.out hk2 hE hC2 _ (AskC.wds hq hX.out)).mono ?_; rintro e wz ⟨rfl, hb⟩; exact ⟨rfl, AskC.kept hq hb⟩)
            | (go_at_call 23; with_reducible refine (refCount_calls n t i ao k cap X N C2 hn'.out hk hE hC2 _ (hW'.out.kept (AskC.below hq))).mono ?_; rintro e wz ⟨rfl, hb⟩; exact ⟨rfl, AskC.kept hq hb⟩)
         )
       simp only [Act.put, List.setIfInBounds_toArray, List.set_cons_zero, List.set_cons_succ]))
  refine wpQuiet_nil ?_
  intro w3 A3
  have A3' := hid A3
  clear A1' A3 hC1 hC2 hG
  go_wp2
  refine wp_region_quiet (C := (fun w' => AskC w n ao k cap g c p X w')) (by kernel_rfl) (by kernel_rfl) (A3'.out.kept ((Below.refl _ _).drew)) ?_
  dsimp only
  repeat (first
    | (refine wpQuiet_skip (by rfl) ?_; simp only [Act.put, List.setIfInBounds_toArray, List.set_cons_zero, List.set_cons_succ])
    | (refine wpQuiet_load 24 _ (w.heap.size) (0) [.int .i64 n, .slice ao k cap] _ (fun wq hq => At.range (AskC.one hq) rfl) Tryd.underlying24 sizeBits rfl rfl rfl (by rfl) ?_; simp only [Act.put, List.setIfInBounds_toArray, List.set_cons_zero, List.set_cons_succ])
    | (refine wpQuiet_load 24 _ (p) (0) [.int .i64 n, .slice (some ⟨g, 0, none⟩) k c] _ (fun wq hq => At.range (AskC.two hq) rfl) Tryd.underlying24 sizeBits rfl rfl rfl (by rfl) ?_; simp only [Act.put, List.setIfInBounds_toArray, List.set_cons_zero, List.set_cons_succ])
    | (refine' wpQuiet_take (by rfl) ?_ ?_
       rotate_left
       · (intro wq hq; (try dsimp only at hq); go_simp
          first
            | done
            | with_reducible rfl
            | (go_at_call 24; with_reducible refine (sel_at n i S1 (some ⟨g, 0, none⟩) k c X N hn'.out hi'.out hk2 hE hS1 _ (hT'.out.below (AskC.below hq) h0) (Nat.lt_of_lt_of_le h0 (AskC.below hq).size) (AskC.wds hq hX.out)).mono ?_; rintro e wz ⟨rfl, hb⟩; exact ⟨rfl, AskC.kept hq hb⟩)
            | (go_at_call 25; with_reducible refine (refSel_at n i S1 ao k cap X N hn'.out hi'.out hk hE hS1 _ (hW'.out.kept (AskC.below hq))).mono ?_; rintro e wz ⟨rfl, hb⟩; exact ⟨rfl, AskC.kept hq hb⟩)
            | (go_at_call 26; with_reducible refine (next_at n i S2 (some ⟨g, 0, none⟩) k c X N hn'.out hi'.out hk2 hE hS2 _ (hT'.out.below (AskC.below hq) h0) (Nat.lt_of_lt_of_le h0 (AskC.below hq).size) (AskC.wds hq hX.out)).mono ?_; rintro e wz ⟨rfl, hb⟩; exact ⟨rfl, AskC.kept hq hb⟩)
            | (go_at_call 27; with_reducible refine (refNext_at n i S2 ao k cap X N hn'.out hk hE hS2 _ (hW'.out.kept (AskC.below hq))).mono ?_; rintro e wz ⟨rfl, hb⟩; exact ⟨rfl, AskC.kept hq hb⟩)
            | (go_at_call 28; with_reducible refine (last_at n i S3 (some ⟨g, 0, none⟩) k c X N hn'.out hi'.out hk2 hE hS3 _ (AskC.wds hq hX.out)).mono ?_; rintro e wz ⟨rfl, hb⟩; exact ⟨rfl, AskC.kept hq hb⟩)
            | (go_at_call 29; with_reducible refine (refLast_at n i S3 ao k cap X N hn'.out hk hE hS3 _ (hW'.out.kept (AskC.below hq))).mono ?_; rintro e wz ⟨rfl, hb⟩; exact ⟨rfl, AskC.kept hq hb⟩)
         )
       simp only [Act.put, List.setIfInBounds_toArray, List.set_cons_zero, List.set_cons_succ]))
  refine wpQuiet_nil ?_
  intro w4 A4
  have A4' := hid A4
  clear A3' A4 hS1 hS2 hS3
  go_wp2
  refine wp_region_quiet (C := (fun w' => AskC w n ao k cap g c p X w')) (by kernel_rfl) (by kernel_rfl) (A4'.out.kept ((Below.refl _ _).drew)) ?_
  dsimp only
  repeat (first
    | (refine wpQuiet_skip (by rfl) ?_; simp only [Act.put, List.setIfInBounds_toArray, List.set_cons_zero, List.set_cons_succ])
    | (refine wpQuiet_load 24 _ (w.heap.size) (0) [.int .i64 n, .slice ao k cap] _ (fun wq hq => At.range (AskC.one hq) rfl) Tryd.underlying24 sizeBits rfl rfl rfl (by rfl) ?_; simp only [Act.put, List.setIfInBounds_toArray, List.set_cons_zero, List.set_cons_succ])
    | (refine wpQuiet_load 24 _ (p) (0) [.int .i64 n, .slice (some ⟨g, 0, none⟩) k c] _ (fun wq hq => At.range (AskC.two hq) rfl) Tryd.underlying24 sizeBits rfl rfl rfl (by rfl) ?_; simp only [Act.put, List.setIfInBounds_toArray, List.set_cons_zero, List.set_cons_succ])
    | (refine' wpQuiet_take (by rfl) ?_ ?_
       rotate_left
       · (intro wq hq; (try dsimp only at hq); go_simp
          first
            | done
            | with_reducible rfl
            | (go_at_call 24; with_reducible refine (sel_at n t S4 (some ⟨g, 0, none⟩) k c X N hn'.out ht'.out hk2 hE hS4 _ (hT'.out.below (AskC.below hq) h0) (Nat.lt_of_lt_of_le h0 (AskC.below hq).size) (AskC.wds hq hX.out)).mono ?_; rintro e wz ⟨rfl, hb⟩; exact ⟨rfl, AskC.kept hq hb⟩)
            | (go_at_call 25; with_reducible refine (refSel_at n t S4 ao k cap X N hn'.out ht'.out hk hE hS4 _ (hW'.out.kept (AskC.below hq))).mono ?_; rintro e wz ⟨rfl, hb⟩; exact ⟨rfl, AskC.kept hq hb⟩)
            | (go_at_call 26; with_reducible refine (next_at n t S5 (some ⟨g, 0, none⟩) k c X N hn'.out ht'.out hk2 hE hS5 _ (hT'.out.below (AskC.below hq) h0) (Nat.lt_of_lt_of_le h0 (AskC.below hq).size) (AskC.wds hq hX.out)).mono ?_; rintro e wz ⟨rfl, hb⟩; exact ⟨rfl, AskC.kept hq hb⟩)
            | (go_at_call 27; with_reducible refine (refNext_at n t S5 ao k cap X N hn'.out hk hE hS5 _ (hW'.out.kept (AskC.below hq))).mono ?_; rintro e wz ⟨rfl, hb⟩; exact ⟨rfl, AskC.kept hq hb⟩)
            | (go_at_call 28; with_reducible refine (last_at n t S6 (some ⟨g, 0, none⟩) k c X N hn'.out ht'.out hk2 hE hS6 _ (AskC.wds hq hX.out)).mono ?_; rintro e wz ⟨rfl, hb⟩; exact ⟨rfl, AskC.kept hq hb⟩)
            | (go_at_call 29; with_reducible refine (refLast_at n t S6 ao k cap X N hn'.out hk hE hS6 _ (hW'.out.kept (AskC.below hq))).mono ?_; rintro e wz ⟨rfl, hb⟩; exact ⟨rfl, AskC.kept hq hb⟩)
            | (go_at_call 14; with_reducible refine (keptB_calls n ao k cap g c X hk3 _ (AskC.lent hq) (hW'.out.kept (AskC.below hq))).mono ?_; rintro e wz ⟨rfl, hb⟩; exact ⟨rfl, AskC.kept hq hb⟩)
            | (go_at_call 15; with_reducible refine (awake_calls _ (hT'.out.below (AskC.below hq) h0) (Nat.lt_of_lt_of_le h0 (AskC.below hq).size)).mono ?_; rintro e wz ⟨rfl, hb⟩; exact ⟨rfl, AskC.kept hq hb⟩)
         )
       simp only [Act.put, List.setIfInBounds_toArray, List.set_cons_zero, List.set_cons_succ]))
  refine wpQuiet_nil ?_
  intro w5 A5
  have hB5 := A5.2.2.2
  clear A4' A5 hS4 hS5 hS6
  go_wp2
  go_ret
  exact ⟨rfl, hB5⟩
end Go.Proofs.YtmbkcnhkbpaagaaDoor
