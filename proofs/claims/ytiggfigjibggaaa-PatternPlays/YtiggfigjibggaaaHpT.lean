/-
  Statements of layer 25: awake.
-/
import Derived.Test.YtiggfigjibggaaaHpS
namespace Go.Proofs.Ytiggfigjibggaaa
open Go.RowKit Go.Shelf Go.Maps

theorem split_one {α : Type} {a e : α} {A B : List α} (h : [a] = A ++ e :: B) : A = [] ∧ e = a ∧ B = [] := by
  match A, h with
  | [], h => simp at h; exact ⟨rfl, h.1.symm, h.2⟩
  | x :: A, h => simp at h
theorem split_two {α : Type} {a b e : α} {A B : List α} (h : [a, b] = A ++ e :: B) : (A = [] ∧ e = a ∧ B = [b]) ∨ (A = [a] ∧ e = b ∧ B = []) := by
  match A, h with
  | [], h => simp at h; exact .inl ⟨rfl, h.1.symm, h.2.symm⟩
  | [x], h => simp at h; exact .inr ⟨by rw [h.1], h.2.1.symm, h.2.2⟩
  | x :: y :: A, h => simp at h
theorem rmd_small {room : Nat} {L L1 : List Ent} (h : Rmd room L L1) (hl : L.length < room) : L1 = L := by
  rcases h with ⟨-, h⟩ | ⟨h, -⟩
  · exact h
  · omega
abbrev bA : ByteArray := ⟨#[97]⟩
abbrev bB : ByteArray := ⟨#[98]⟩
abbrev bC : ByteArray := ⟨#[99]⟩
abbrev bS : ByteArray := ⟨#[47]⟩
abbrev bX : ByteArray := ⟨#[120]⟩
theorem ne_ab : bA ≠ bB := by simp
theorem ne_sx : bS ≠ bX := by simp
theorem aw_1 {c : Nat} {L : List Ent} (h : Lrn 2 0 [] bS bA 3 c L) : c = 1 ∧ L = [⟨bS, bA, 3, 1, 0⟩] := by
  rcases h with ⟨A, e, B, h, -⟩ | ⟨-, ⟨h, -⟩ | ⟨-, L1, h1, h2, h3⟩⟩
  · simp at h
  · omega
  · rw [rmd_small h1 (by simp)] at h2
    exact ⟨h3, h2⟩
theorem aw_2 {c : Nat} {L : List Ent} (h : Lrn 2 1 [⟨bS, bA, 3, 1, 0⟩] bS bB 0 c L) : c = 2 ∧ L = [⟨bS, bA, 3, 1, 0⟩, ⟨bS, bB, 0, 1, 1⟩] := by
  rcases h with ⟨A, e, B, h, -, hn, -⟩ | ⟨-, ⟨h, -⟩ | ⟨-, L1, h1, h2, h3⟩⟩
  · obtain ⟨-, rfl, -⟩ := split_one h
    exact absurd hn ne_ab
  · omega
  · rw [rmd_small h1 (by simp)] at h2
    exact ⟨h3, h2⟩
theorem aw_3 {c : Nat} {L : List Ent} (h : Lrn 2 2 [⟨bS, bA, 3, 1, 0⟩, ⟨bS, bB, 0, 1, 1⟩] bS bB 0 c L) : c = 2 ∧ L = [⟨bS, bA, 3, 1, 0⟩, ⟨bS, bB, 0, 2, 1⟩] := by
  rcases h with ⟨A, e, B, h, -, hn, h2, h3⟩ | ⟨h, -⟩
  · rcases split_two h with ⟨-, rfl, -⟩ | ⟨rfl, rfl, rfl⟩
    · exact absurd hn ne_ab
    · exact ⟨h3, by rw [h2]; simp [upd]⟩
  · exact absurd ⟨rfl, rfl⟩ (h ⟨bS, bB, 0, 1, 1⟩ (by simp))
theorem aw_4 {c : Nat} {L : List Ent} (h : Lrn 2 2 [⟨bS, bA, 3, 1, 0⟩, ⟨bS, bB, 0, 2, 1⟩] bX bC 7 c L) : c = 3 ∧ L = [⟨bS, bB, 0, 2, 1⟩, ⟨bX, bC, 7, 1, 2⟩] := by
  rcases h with ⟨A, e, B, h, hr, -⟩ | ⟨-, ⟨h, -⟩ | ⟨-, L1, h1, h2, h3⟩⟩
  · rcases split_two h with ⟨-, rfl, -⟩ | ⟨-, rfl, -⟩
    · exact absurd hr ne_sx
    · exact absurd hr ne_sx
  · omega
  · rcases h1 with ⟨h, -⟩ | ⟨-, A, f, B, h, hm, rfl⟩
    · simp at h
    · rcases split_two h with ⟨rfl, rfl, rfl⟩ | ⟨-, rfl, -⟩
      · exact ⟨h3, h2⟩
      · exact absurd (by simp [ahd]) (hm ⟨bS, bA, 3, 1, 0⟩ (by simp))
theorem perm_pair {a b : Ent} {M : List Ent} (h : M.Perm [a, b]) (hs : M.Pairwise ltE) (hab : ltE a b) : M = [a, b] := by
  have hl := h.length_eq
  match M, hl with
  | [x, y], _ =>
    have hs := (List.pairwise_cons.1 hs).1 y (by simp)
    have hx := h.mem_iff.1 (List.mem_cons_self ..)
    have hy := h.mem_iff.1 (show y ∈ [x, y] by simp)
    simp at hx hy
    rcases hx with rfl | rfl <;> rcases hy with rfl | rfl
    · unfold ltE at hs; omega
    · rfl
    · unfold ltE at *; omega
    · unfold ltE at hs; omega
/-- An entry as a learnt place. -/
def lrOf (e : Ent) : Lr := ⟨e.r, e.n, (e.p : Int), (e.h : Int)⟩
theorem lrOf_ok {e : Ent} (h : EnOk e) : LrOk (lrOf e) := ⟨h.1, by show _ ≤ (e.p : Int); omega, by have := h.2.1; show (e.p : Int) ≤ _; omega, by show _ ≤ (e.h : Int); omega, by have := h.2.2; show (e.h : Int) ≤ _; omega⟩
theorem LrAt.lns {w : World} {g n : Nat} {M : List Ent} (h : LrAt w g n M) (hok : ∀ e ∈ M, EnOk e) : LnsAt w (some ⟨g, 0, none⟩) (M.map lrOf) := fun j x hj => by
  rw [List.getElem?_map] at hj
  cases hm : M[j]? with
  | none => rw [hm] at hj; cases hj
  | some e =>
    rw [hm] at hj
    cases hj
    refine ⟨lrOf_ok (hok e (List.mem_of_getElem? hm)), g, 0, rfl, h.lt, ?_⟩
    rw [Nat.zero_add]
    exact h.range hm
theorem PatM.ok {w : World} {pb : Nat} {S : Nat → Prop} {room came : Nat} {L : List Ent} (h : PatM w pb S room came L) : (∀ e ∈ L, EnOk e) ∧ L.length ≤ room ∧ room ≤ 4096 ∧ L.Pairwise (fun x y => ¬ (x.r = y.r ∧ x.n = y.n)) ∧ L.Pairwise (fun x y => x.a < y.a) := by
  obtain ⟨mb, v, H, h⟩ := h
  refine ⟨fun e he => (h.ok e he).2, h.ln, h.rm, ?_, h.asc⟩
  obtain ⟨D, -, h2⟩ := h.mp
  have h3 : (H.map (fun z : Nat × Ent => z.2)).Pairwise (fun x y : Ent => ¬ (x.r = y.r ∧ x.n = y.n)) := List.pairwise_map.2 h2.ap
  exact (h.pm.pairwise_iff (R := fun x y : Ent => ¬ (x.r = y.r ∧ x.n = y.n)) (fun {a b} hab hba => hab ⟨hba.1.symm, hba.2.symm⟩)).1 h3
theorem lns_none (w : World) (ao : Option Addr) : LnsAt w ao [] := fun j x h => by simp at h
/-- Behind a Learn of one's own pattern. -/
theorem PatM.own {w w' : World} {pb B : Nat} {room came : Nat} {L : List Ent} (h : PatM w' pb (fun q => B ≤ q ∨ w.heap.size ≤ q) room came L) (hB : B ≤ w.heap.size) : PatM w' pb (fun q => B ≤ q) room came L :=
  h.mono (fun _ _ h => h.elim id (fun h => Nat.le_trans hB h))
theorem ky_small {r n : ByteArray} (h1 : r.size ≤ 1048576) (h2 : n.size ≤ 1048576) : KyOk r n := ⟨by omega, by omega⟩
set_option maxRecDepth 10000 in
set_option maxHeartbeats 8000000 in
theorem awake25 (w : World) : Calls Try.prog 17 #[] w fun e w' => e = .returned (.bool true) ∧ Below w.heap.size w w' := by
  have hnew := hid (new_calls 2 (by omega) [] 0 (hid rfl) (by omega) none 0 w (hid (lns_none _ _)))
  go_enter Try.func17, Try.ntmps17
  go_wp2_with fail
  refine Calls.mono hnew.out ?_
  rintro e w1 ⟨B1, ⟨-, pb, rfl, P1⟩ | ⟨hbad, -⟩⟩
  rotate_left
  · exact absurd ⟨fun x hx => by simp at hx, List.Pairwise.nil⟩ hbad.out
  have L1 := hid (learn_calls pb (fun q => w.heap.size ≤ q) 2 0 [] (by omega) bS bA (ky_small (by decide) (by decide)) 3 (by omega) w1 P1.out)
  clear hnew
  go_wp2_with fail
  refine Calls.mono L1.out ?_
  rintro e w2 ⟨rfl, c2, K2, hl2, P2, lp2⟩
  obtain ⟨rfl, rfl⟩ := aw_1 hl2.out
  have B2 := hid (show Below w.heap.size w w2 from B1.out.trans (lp2.out.below B1.out.size (fun q h => h)))
  have L2 := hid (learn_calls pb (fun q => w.heap.size ≤ q) 2 1 _ (by omega) bS bB (ky_small (by decide) (by decide)) 0 (by omega) w2 (P2.out.own B1.out.size))
  clear L1 P1 P2 hl2 lp2
  go_wp2_with fail
  refine Calls.mono L2.out ?_
  rintro e w3 ⟨rfl, c3, K3, hl3, P3, lp3⟩
  obtain ⟨rfl, rfl⟩ := aw_2 hl3.out
  have B3 := hid (show Below w.heap.size w w3 from B2.out.trans (lp3.out.below B2.out.size (fun q h => h)))
  have L3 := hid (learn_calls pb (fun q => w.heap.size ≤ q) 2 2 _ (by omega) bS bB (ky_small (by decide) (by decide)) 0 (by omega) w3 (P3.out.own B2.out.size))
  clear L2 P3 hl3 lp3
  go_wp2_with fail
  refine Calls.mono L3.out ?_
  rintro e w4 ⟨rfl, c4, K4, hl4, P4, lp4⟩
  obtain ⟨rfl, rfl⟩ := aw_3 hl4.out
  have B4 := hid (show Below w.heap.size w w4 from B3.out.trans (lp4.out.below B3.out.size (fun q h => h)))
  have L4 := hid (learn_calls pb (fun q => w.heap.size ≤ q) 2 2 _ (by omega) bX bC (ky_small (by decide) (by decide)) 7 (by omega) w4 (P4.out.own B3.out.size))
  clear L3 P4 hl4 lp4
  go_wp2_with fail
  refine Calls.mono L4.out ?_
  rintro e w5 ⟨rfl, c5, K5, hl5, P5, lp5⟩
  obtain ⟨rfl, rfl⟩ := aw_4 hl5.out
  have B5 := hid (show Below w.heap.size w w5 from B4.out.trans (lp5.out.below B4.out.size (fun q h => h)))
  have P5' := hid (P5.out.own B4.out.size)
  have hal := hid (all_calls25 pb (fun q => w.heap.size ≤ q) 2 3 _ w5 P5'.out)
  clear L4 P5 hl5 lp5
  go_wp2_with fail
  refine Calls.mono hal.out ?_
  rintro e w6 ⟨g, M, rfl, hMp, hMs, hMr, hg, b6⟩
  obtain rfl := perm_pair hMp.out hMs.out (by simp [ltE])
  have hok := hid P5'.out.ok.1
  have B6 := hid (show Below w.heap.size w w6 from B5.out.trans (b6.out.mono B5.out.size))
  obtain ⟨X, hX⟩ : ∃ X, w6.heap.size = X := ⟨_, rfl⟩
  obtain ⟨W7, hW7⟩ : ∃ W, w6.alloc (.cells #[.string bS, .string bB, .int .i64 0, .int .i64 2, .string bX, .string bC, .int .i64 7, .int .i64 1] 25) = W := ⟨_, rfl⟩
  have A7 := hid (show At W7 X #[.string bS, .string bB, .int .i64 0, .int .i64 2, .string bX, .string bC, .int .i64 7, .int .i64 1] 25 by rw [← hW7, ← hX]; exact At.new _ _ _)
  have b7 : Below w6.heap.size w6 W7 := by rw [← hW7]; exact (Below.refl _ w6).alloc (Nat.le_refl _) _
  have B7 := hid (show Below w.heap.size w W7 from B6.out.trans (b7.mono B6.out.size))
  have hl1 := hid ((hMr.out.kept b7).lns hok.out)
  have hl2 := hid (show LnsAt W7 (some ⟨X, 0, none⟩) (([⟨bS, bB, 0, 2, 1⟩, ⟨bX, bC, 7, 1, 2⟩] : List Ent).map lrOf) from fun j x hj => by
    match j, hj with
    | 0, hj =>
      simp at hj
      subst hj
      refine ⟨lrOf_ok (hok.out _ (by simp)), X, 0, rfl, A7.out.lt, fun k u hk => ?_⟩
      (try simp only [Nat.zero_mul, Nat.zero_add])
      rw [A7.out.cell k]
      match k, hk with
      | 0, hk => simpa [lrL, lrOf] using hk
      | 1, hk => simpa [lrL, lrOf] using hk
      | 2, hk => simpa [lrL, lrOf] using hk
      | 3, hk => simpa [lrL, lrOf] using hk
      | k + 4, hk => simp [lrL] at hk
    | 1, hj =>
      simp at hj
      subst hj
      refine ⟨lrOf_ok (hok.out _ (by simp)), X, 0, rfl, A7.out.lt, fun k u hk => ?_⟩
      (try simp only [Nat.one_mul, Nat.zero_add])
      rw [A7.out.cell (4 + k)]
      match k, hk with
      | 0, hk => simpa [lrL, lrOf] using hk
      | 1, hk => simpa [lrL, lrOf] using hk
      | 2, hk => simpa [lrL, lrOf] using hk
      | 3, hk => simpa [lrL, lrOf] using hk
      | k + 4, hk => simp [lrL] at hk
    | j + 2, hj => simp at hj)
  have hsa := hid (fun (c : Nat) => same25_calls _ (some ⟨g, 0, none⟩) (some ⟨X, 0, none⟩) 2 2 c (hid rfl) (by omega) W7 hl1 hl2)
  clear hal hMp hMs hMr b7 hl1 hl2 A7 hok P5'
  go_wp2_with fail
  refine Calls.mono (hsa.out _) ?_
  rintro e w8 ⟨rfl, b8⟩
  have B8 := hid (show Below w.heap.size w w8 from B7.out.trans (b8.mono B7.out.size))
  clear hsa
  go_wp2
  go_ret
  exact ⟨rfl, B8.out⟩
end Go.Proofs.Ytiggfigjibggaaa
