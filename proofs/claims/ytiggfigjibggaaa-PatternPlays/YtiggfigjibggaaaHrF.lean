/-
  The document's pattern: sorted, All.
-/
import Derived.Test.YtiggfigjibggaaaHrE
namespace Go.Proofs.Ytiggfigjibggaaa
open Go.RowKit Go.Shelf Go.Maps

/-- Two lists put together. -/
def mgR : List Ent → List Ent → List Ent
  | [], b => b
  | x :: a, [] => x :: a
  | x :: a, y :: b => if y.h ≤ x.h then x :: mgR a (y :: b) else y :: mgR (x :: a) b
termination_by a b => a.length + b.length
theorem mgR_nil (b : List Ent) : mgR [] b = b := by unfold mgR; rfl
theorem mgR_none (a : List Ent) : mgR a [] = a := by
  cases a with
  | nil => exact mgR_nil []
  | cons x a => unfold mgR; rfl
theorem mgR_left {x y : Ent} {a b : List Ent} (h : y.h ≤ x.h) : mgR (x :: a) (y :: b) = x :: mgR a (y :: b) := by conv => lhs; unfold mgR; rw [if_pos h]
theorem mgR_right {x y : Ent} {a b : List Ent} (h : ¬ y.h ≤ x.h) : mgR (x :: a) (y :: b) = y :: mgR (x :: a) b := by conv => lhs; unfold mgR; rw [if_neg h]
theorem mgR_perm : ∀ (m : Nat) (a b : List Ent), a.length + b.length ≤ m → (mgR a b).Perm (a ++ b)
  | _, [], b, _ => by rw [mgR_nil]; exact List.Perm.refl _
  | _, x :: a, [], _ => by rw [mgR_none]; simp
  | 0, x :: a, y :: b, h => by simp at h
  | m + 1, x :: a, y :: b, h => by
    simp at h
    by_cases hxy : y.h ≤ x.h
    · rw [mgR_left hxy]
      exact (mgR_perm m a (y :: b) (by simp; omega)).cons x
    · rw [mgR_right hxy]
      exact ((mgR_perm m (x :: a) b (by simp; omega)).cons y).trans List.perm_middle.symm
theorem mgR_sorted : ∀ (m : Nat) (a b : List Ent), a.length + b.length ≤ m → a.Pairwise ltE → b.Pairwise ltE → (∀ x ∈ a, ∀ y ∈ b, x.a < y.a) → (mgR a b).Pairwise ltE
  | _, [], b, _, _, hb, _ => by rw [mgR_nil]; exact hb
  | _, x :: a, [], _, ha, _, _ => by rw [mgR_none]; exact ha
  | 0, x :: a, y :: b, h, _, _, _ => by simp at h
  | m + 1, x :: a, y :: b, h, ha, hb, hab => by
    simp at h
    obtain ⟨a1, a2⟩ := List.pairwise_cons.1 ha
    obtain ⟨b1, b2⟩ := List.pairwise_cons.1 hb
    by_cases hxy : y.h ≤ x.h
    · rw [mgR_left hxy]
      refine List.pairwise_cons.2 ⟨fun z hz => ?_, mgR_sorted m a (y :: b) (by simp; omega) a2 hb (fun u hu v hv => hab u (List.mem_cons_of_mem _ hu) v hv)⟩
      rcases List.mem_append.1 ((mgR_perm _ a (y :: b) (Nat.le_refl _)).mem_iff.1 hz) with hz | hz
      · exact a1 z hz
      · have h1 := hab x (List.mem_cons_self ..) z hz
        rcases List.mem_cons.1 hz with rfl | hz
        · unfold ltE; omega
        · have h2 := b1 z hz
          unfold ltE at h2 ⊢
          omega
    · rw [mgR_right hxy]
      refine List.pairwise_cons.2 ⟨fun z hz => ?_, mgR_sorted m (x :: a) b (by simp; omega) ha b2 (fun u hu v hv => hab u hu v (List.mem_cons_of_mem _ hv))⟩
      rcases List.mem_append.1 ((mgR_perm _ (x :: a) b (Nat.le_refl _)).mem_iff.1 hz) with hz | hz
      · rcases List.mem_cons.1 hz with rfl | hz
        · unfold ltE; omega
        · have h2 := a1 z hz
          unfold ltE at h2 ⊢
          omega
      · exact b1 z hz
/-- What sorted gives. -/
def msR (n : Nat) (L : List Ent) : List Ent :=
  match n with
  | 0 => L
  | n + 1 => if L.length < 2 then L else mgR (msR n (L.take (L.length / 2))) (msR n (L.drop (L.length / 2)))
theorem msR_perm : ∀ (n : Nat) (L : List Ent), (msR n L).Perm L
  | 0, L => List.Perm.refl _
  | n + 1, L => by
    unfold msR
    split
    · exact List.Perm.refl _
    · refine (mgR_perm _ _ _ (Nat.le_refl _)).trans ?_
      conv => rhs; rw [← List.take_append_drop (L.length / 2) L]
      exact (msR_perm n _).append (msR_perm n _)
theorem msR_sorted : ∀ (n : Nat) (L : List Ent), L.length ≤ n + 1 → L.Pairwise (fun x y => x.a < y.a) → (msR n L).Pairwise ltE
  | 0, L, h, _ => by
    match L, h with
    | [], _ => exact List.Pairwise.nil
    | [x], _ => exact List.pairwise_singleton _ _
  | n + 1, L, h, ha => by
    unfold msR
    split
    · match L, ‹L.length < 2› with
      | [], _ => exact List.Pairwise.nil
      | [x], _ => exact List.pairwise_singleton _ _
    · have h2 : 2 ≤ L.length := by omega
      have hs := ha
      rw [← List.take_append_drop (L.length / 2) L, List.pairwise_append] at hs
      refine mgR_sorted _ _ _ (Nat.le_refl _) (msR_sorted n _ (by rw [List.length_take]; omega) hs.1) (msR_sorted n _ (by rw [List.length_drop]; omega) hs.2.1) (fun x hx y hy => ?_)
      exact hs.2.2 x ((msR_perm n _).mem_iff.1 hx) y ((msR_perm n _).mem_iff.1 hy)
/-- A list that is given, with its room. -/
def SlAt (w : World) (so : Option Addr) (n cap : Nat) (L : List Ent) : Prop := L.length = n ∧ ((so = none ∧ n = 0 ∧ cap = 0) ∨ ∃ b off, so = some ⟨b, off, none⟩ ∧ n ≤ cap ∧ (cap : Int) ≤ 9223372036854775807 ∧ b < w.heap.size ∧ ∀ (j : Nat) (x : Ent), L[j]? = some x → w.rangeAt b (off + j * 4) [.string x.r, .string x.n, .int .i64 (x.p : Int), .int .i64 (x.h : Int)])
theorem SlAt.kept {w w' : World} {so : Option Addr} {n cap : Nat} {L : List Ent} (h : SlAt w so n cap L) (hb : Below w.heap.size w w') : SlAt w' so n cap L := by
  obtain ⟨h0, h | ⟨b, off, h1, h2, h3, h4, h5⟩⟩ := h
  · exact ⟨h0, .inl h⟩
  · exact ⟨h0, .inr ⟨b, off, h1, h2, h3, Nat.lt_of_lt_of_le h4 hb.size, fun j x hj => range_kept (h5 j x hj) hb⟩⟩
theorem own_sl {w : World} {B N : Nat} {so : Option Addr} {c : Nat} {L : List Ent} (h : w.ownsRow B 25 4 (.slice so N c) N ((L.map lrOf).flatMap lrL)) (hN : L.length = N) : SlAt w so N c L := by
  refine ⟨hN, ?_⟩
  rcases h.2 with ⟨h1, h2⟩ | ⟨g, cap, cur, h1, hb, hg, h2, h3, h4, h5⟩
  · cases h1
    exact .inl ⟨rfl, rfl, rfl⟩
  · cases h1
    refine .inr ⟨g, 0, rfl, h2, by unfold maxLen at h3; omega, (h.lt g rfl).2, fun j x hj => ?_⟩
    obtain ⟨g', c', e, -, h6⟩ := rows_at h hj hN
    cases e
    rw [Nat.zero_add]
    exact h6
theorem sl_src {w : World} {b off n cap : Nat} {L : List Ent} (h : SlAt w (some ⟨b, off, none⟩) n cap L) {M : List Ent} {o : Nat} (hM : ∀ j x, M[j]? = some x → L[o + j]? = some x) : ∀ j u, ((M.map lrOf).flatMap lrL)[j]? = some u → w.cell? ((⟨b, off + o * 4, none⟩ : Addr).add j) = some u := fun j u hj => by
  obtain ⟨q, k, x, rfl, h2, h3⟩ := flat_lrR_inv hj
  obtain ⟨-, ⟨h1, -⟩ | ⟨b', off', h1, -, -, -, h5⟩⟩ := h
  · cases h1
  · cases h1
    have h6 := h5 (o + q) x (hM q x h2) k u h3
    rw [Addr.add_mid, show off + o * 4 + (q * 4 + k) = off + (o + q) * 4 + k by omega]
    exact h6
/-- What sorted leaves. -/
def SoR (f : Nat) (L : List Ent) (n : Nat) (w : World) (e : Ending) (w' : World) : Prop := ∃ so c, e = .returned (.slice so n c) ∧ Hid (w'.ownsRow w.heap.size 25 4 (.slice so n c) n (((msR f L).map lrOf).flatMap lrL)) ∧ Hid (Below w.heap.size w w')
theorem one_more {w : World} {B n : Nat} {v : Value} {O : List Ent} (hv : w.ownsRow B 25 4 v n ((O.map lrOf).flatMap lrL)) (x : Ent) (hn : n ≤ 8192) (hB : B ≤ w.heap.size) :
    ∃ so' c' w', (∀ ty, (Builtin.append_ #[22, 22] ty #[v, .slice (some ⟨w.heap.size, 0, none⟩) 1 1]).run Try.prog (w.alloc (.cells #[.string x.r, .string x.n, .int .i64 (x.p : Int), .int .i64 (x.h : Int)] 25)) = .ok (.slice so' (n + 1) c') w') ∧ w'.ownsRow B 25 4 (.slice so' (n + 1) c') (n + 1) (((O ++ [x]).map lrOf).flatMap lrL) ∧ Below B w w' := by
  obtain ⟨W1, hW1⟩ : ∃ W, w.alloc (.cells #[.string x.r, .string x.n, .int .i64 (x.p : Int), .int .i64 (x.h : Int)] 25) = W := ⟨_, rfl⟩
  have A1 : At W1 w.heap.size #[.string x.r, .string x.n, .int .i64 (x.p : Int), .int .i64 (x.h : Int)] 25 := by rw [← hW1]; exact at_newP rfl
  have B1 : Below w.heap.size w W1 := by rw [← hW1]; exact (Below.refl _ w).alloc (Nat.le_refl _) _
  have hv1 := own_onP (W' := W1) hv (fun g _ _ hl => B1.block g hl)
  obtain ⟨v', W2, hr, hown, hgr, hv'⟩ := app_genP (B := B) Try.underlying22 infoLrR rfl (by decide) hv1 ⟨w.heap.size, 0, none⟩ 1 [.string x.r, .string x.n, .int .i64 (x.p : Int), .int .i64 (x.h : Int)] rfl (fun j u hj => by
    rw [Addr.add_mid, Nat.zero_add, A1.cell j, List.getElem?_toArray]
    exact hj) (fun u hu => by simp at hu; rcases hu with rfl | rfl | rfl | rfl <;> rfl) (by omega) (by decide) (Nat.le_trans hB B1.size)
  obtain ⟨so', c', rfl⟩ := own_shapeP hown
  have e : ((O ++ [x]).map lrOf).flatMap lrL = (O.map lrOf).flatMap lrL ++ [.string x.r, .string x.n, .int .i64 (x.p : Int), .int .i64 (x.h : Int)] := by rw [List.map_append, List.flatMap_append]; rfl
  refine ⟨so', c', W2, by rw [hW1]; exact hr, by rw [e]; exact hown, (B1.mono hB).grown hgr (Nat.le_trans hB B1.size) (fun b e => (hv1.lt b e).1)⟩
set_option maxRecDepth 10000 in
set_option maxHeartbeats 8000000 in
theorem sortedR_few (f : Nat) (L : List Ent) (n : Nat) (hn : n < 2) (so : Option Addr) (cap : Nat) (w : World) (hL : Hid (SlAt w so n cap L)) :
    Calls Try.prog 39 #[.slice so n cap] w fun e w' => SoR f L n w e w' := by
  have hl := hL.out.1
  have hms : msR f L = L := by
    cases f with
    | zero => rfl
    | succ f => unfold msR; rw [if_pos (by omega)]
  have hni : (n : Int) < 2 := by omega
  unfold SoR
  rw [hms]
  obtain ⟨-, ⟨rfl, rfl, rfl⟩ | ⟨b, off, rfl, h2, h3, h4, h5⟩⟩ := hL.out
  · obtain rfl : L = [] := List.length_eq_zero_iff.1 hl
    obtain ⟨i0, hi, -, -, -⟩ := info_partsP infoLrR
    have hrun : ∀ ty, (Builtin.append_ #[22, 22] ty #[.slice none 0 0, .slice none 0 0]).run Try.prog w = .ok (.slice none 0 0) w := fun ty => by
      exact run_append_owned_none (P := Try.prog) (w := w) 0 22 ty 25 i0 4 Try.underlying22 hi (.slice none 0 0) 0 [] (World.ownsRow_nil w 0 _ _)
    have hrun := hid hrun
    go_enter Try.func39, Try.ntmps39
    go_wp2_with (first | (at_builtin; refine wpList_append_runP rfl _ _ 22 rfl (.slice none 0 0) (.slice none 0 0) (.slice none 0 0) w rfl rfl hrun.out ?_) | fail)
    go_ret
    exact ⟨none, 0, rfl, hid (by simpa using World.ownsRow_nil w w.heap.size 25 4), hid (Below.refl _ _)⟩
  · obtain ⟨so', c', w', hrun, hown, hg, -⟩ := rw_app (World.ownsRow_nil w w.heap.size 25 4) (L1 := []) ⟨b, off, none⟩ n cap L hl (by
      have h := sl_src hL.out (M := L) (o := 0) (fun j x h => by rw [Nat.zero_add]; exact h)
      rw [Nat.zero_mul, Nat.add_zero] at h
      exact h) (by omega) (Nat.le_refl _)
    rw [Nat.zero_add] at hrun hown
    rw [List.nil_append] at hown
    have hrun := hid hrun
    have hb := hid (show Below w.heap.size w w' from ⟨hg.os, hg.tape, hg.output, hg.size, fun k hk => hg.block k hk (by simp [Value.ownBlock])⟩)
    go_enter Try.func39, Try.ntmps39
    go_wp2_with (first | (at_builtin; refine wpList_append_runP rfl _ _ 22 rfl (.slice none 0 0) (.slice (some ⟨b, off, none⟩) n cap) (.slice so' n c') w' rfl rfl hrun.out ?_) | fail)
    go_ret
    exact ⟨so', c', rfl, hid hown, hb⟩
end Go.Proofs.Ytiggfigjibggaaa
