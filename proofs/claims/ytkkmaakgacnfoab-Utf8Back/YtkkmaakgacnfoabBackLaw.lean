/-
  Utf8Back: the forms of what Runes tells are the text's beginning.
-/
import Derived.Test.YtkkmaakgacnfoabFormC
import Derived.Test.YtkkmaakgacnfoabUtf8Size
import Derived.Test.YtkkmaakgacnfoabUtf8Read
import Derived.Test.YtkkmaakgacnfoabRunesSeq
import Derived.Test.YtkkmaakgacnfoabRoundKit
import Derived.Test.YtkkmaakgacnfoabQuietC
import Derived.Test.YtkkmaakgacnfoabTelLen
import Derived.Laws.Concat
namespace Go.Proofs.Ytkkmaakgacnfoab
open Go.RowKit Go.Shelf

attribute [local go_sem] Oper.semAt_some

theorem undef_bool7 {b : Bool} (h : some undef = some (Value.bool b)) : False := by first | (cases h; done) | (simp [undef] at h)
/-- The forms of what was told, by the numbers of the rounds. -/
def FI (T : List (Nat × Nat)) (pre : List Nat) : List Nat := (pre.map fun x => formL (T.getD x (0, 0)).2).flatten
theorem FI_snoc (T : List (Nat × Nat)) (pre : List Nat) (x : Nat) : FI T (pre ++ [x]) = FI T pre ++ formL (T.getD x (0, 0)).2 := by unfold FI; rw [List.map_append, List.flatten_append]; simp
theorem FI_range (T : List (Nat × Nat)) (k : Nat) (hk : k ≤ T.length) : FI T (List.range k) = Forms (T.take k) := by
  induction k with
  | zero => rfl
  | succ k ih =>
    rw [List.range_succ, FI_snoc, ih (by omega), List.take_add_one, List.getElem?_eq_getElem (by omega)]
    show _ = Forms (T.take k ++ [_])
    rw [Forms_snoc, List.getD_eq_getElem?_getD, List.getElem?_eq_getElem (by omega)]
    rfl
theorem FI_len (T : List (Nat × Nat)) (pre : List Nat) : (FI T pre).length ≤ 4 * pre.length := by
  induction pre with
  | nil => exact Nat.le_refl _
  | cons x r ih =>
    show ((formL (T.getD x (0, 0)).2) ++ FI T r).length ≤ 4 * (r.length + 1)
    rw [List.length_append, formL_len]
    have := sizeN_le (T.getD x (0, 0)).2
    omega
theorem FI_lt (T : List (Nat × Nat)) (pre : List Nat) : ∀ x ∈ FI T pre, x < 256 := by
  induction pre with
  | nil => intro x hx; cases hx
  | cons y r ih =>
    intro x hx
    have hx : x ∈ formL (T.getD y (0, 0)).2 ++ FI T r := hx
    rcases List.mem_append.1 hx with h | h
    · exact formL_lt _ x h
    · exact ih x h
theorem mkS_append (a b : List Nat) : mkS (a ++ b) = mkS a ++ mkS b := by
  apply ByteArray.ext
  unfold mkS
  rw [ByteArray.data_append]
  simp
theorem forms_clean (L : List (Nat × Nat)) : ∀ s : St5, s.wrong = false → s.q.left = 0 → (∀ y ∈ L, sizeN y.2 ≠ 0) → (runS s (Forms L)).wrong = false ∧ (runS s (Forms L)).q.left = 0 := by
  induction L with
  | nil => exact fun s h1 h2 _ => ⟨h1, h2⟩
  | cons y r ih =>
    intro s h1 h2 h3
    obtain ⟨-, -, q, hq, hq0⟩ := run_form h1 h2 y.2 (h3 y (by simp))
    show (runS s (formL y.2 ++ Forms r)).wrong = false ∧ _
    rw [show runS s (Forms (y :: r)) = runS s (formL y.2 ++ Forms r) from rfl, runS_append, hq]
    exact ih _ rfl hq0 (fun z hz => h3 z (by simp [hz]))
theorem forms_bad (L : List (Nat × Nat)) (h : ∀ y ∈ L, sizeN y.2 ≠ 0) : badI (runS s5 (Forms L)) = -1 := by
  obtain ⟨h1, h2⟩ := forms_clean L s5 rfl rfl h
  unfold badI
  rw [if_neg]
  intro k
  rcases k with k | k
  · rw [h1] at k; cases k
  · omega
theorem byts_lt7 (s : ByteArray) : ∀ x ∈ byts s, x < 256 := by
  intro x hx
  unfold byts at hx
  obtain ⟨y, _, rfl⟩ := List.mem_map.1 hx
  exact UInt8.toNat_lt y
theorem cell_lt7 {w : World} {a : Addr} {v : Value} (h : w.cell? a = some v) : a.block < w.heap.size := by
  unfold World.cell? at h
  cases ho : w.heap[a.block]? with
  | none => simp [ho] at h
  | some o => exact (Array.getElem?_eq_some_iff.1 ho).1
/-- Between two rounds: what is answered, the forms, and how many bytes they have. -/
def BackI (w : World) (A Z : Nat) (T : List (Nat × Nat)) (pre : List Nat) (W : World) : Prop :=
  At W w.heap.size #[.bool false] 4 ∧ At W A #[.string (mkS (FI T pre))] 9 ∧ At W Z #[.int .i64 (((FI T pre).length : Nat) : Int)] 3 ∧ Below w.heap.size w W
theorem BackI.free {w W W' : World} {A Z B : Nat} {T : List (Nat × Nat)} {pre : List Nat} (h : BackI w A Z T pre W) (hA : A < B) (hZ : Z < B) (hB : w.heap.size < B) {row : Option Nat} (hg : W.grownBy W' row) (hr : ∀ r, row = some r → B ≤ r) : BackI w A Z T pre W' :=
  ⟨h.1.free (B := B) hB hg hr, h.2.1.free (B := B) hA hg hr, h.2.2.1.free (B := B) hZ hg hr, below_free (B := B) h.2.2.2 (by omega) (by have := h.1.lt; omega) hg hr⟩

/-- The variable of the forms behind the first of a round's two assignments. -/
theorem back_five {W : World} {A : Nat} {S : ByteArray} (h2 : At W A #[.string S] 9) (v : Int) : At ((W.drew.setCell ⟨A + 1, 0, none⟩ (.int .i64 v)).drew) A #[.string S] 9 :=
  (At.other (p := ⟨A + 1, 0, none⟩) h2.drew (by show A ≠ A + 1; omega) _).drew
/-- A round's end. -/
theorem back_round {w W wf : World} {V : Int} {A N M B D l : Nat} {T : List (Nat × Nat)} {pre : List Nat} {x cc : Nat} (h1 : At W w.heap.size #[.bool false] 4) (h2 : At W A #[.string (mkS (FI T pre))] 9) (h3 : At W (A + 1) #[.int .i64 (((FI T pre).length : Nat) : Int)] 3) (hB : Below w.heap.size w W)
    (hb : Below ((W.drew.setCell ⟨A + 1, 0, none⟩ (.int .i64 V)).drew).heap.size ((W.drew.setCell ⟨A + 1, 0, none⟩ (.int .i64 V)).drew) wf) (hAw : w.heap.size < A) (hAB : A + 1 < B) (hl : A + 1 + 1 = l)
    (hsn : FI T (pre ++ [x]) = FI T pre ++ formL cc) (hN : (FI T pre).length = N) (hM : sizeN cc = M) (hV : V = (N : Int) + (M : Int)) :
    KeepsFrom D W (wf.setCell ⟨A, 0, none⟩ (.string (mkS (FI T pre) ++ mkS (formL cc)))) ∧ Held w.heap.size B l W (wf.setCell ⟨A, 0, none⟩ (.string (mkS (FI T pre) ++ mkS (formL cc)))) ∧ BackI w A (A + 1) T (pre ++ [x]) (wf.setCell ⟨A, 0, none⟩ (.string (mkS (FI T pre) ++ mkS (formL cc)))) := by
  have k1 := (((KeepsOthers.drew W).trans (KeepsOthers.setCell _ ⟨A + 1, 0, none⟩ (.int .i64 V))).trans (KeepsOthers.drew _)).trans (keeps_below hb)
  have g1 := (((Held.drew (n0 := w.heap.size) (B := B) (Bx := l) W).trans (Held.setCell (b := A + 1) _ (.int .i64 V) (by omega) (by omega) (by omega))).trans (Held.drew _)).trans (Held.below (by have := h1.lt; show w.heap.size ≤ (World.setCell _ _ _).heap.size; simp; omega) hb)
  have b1 : Below w.heap.size w wf := (((hB.drew).setCell (p := ⟨A + 1, 0, none⟩) (by show w.heap.size ≤ A + 1; omega) (.int .i64 V)).drew).trans (hb.mono (by have := h1.lt; show w.heap.size ≤ (World.setCell _ _ _).heap.size; simp; omega))
  have a1 : At wf w.heap.size #[.bool false] 4 := (At.drew (At.other (p := ⟨A + 1, 0, none⟩) h1.drew (by show w.heap.size ≠ A + 1; omega) _)).keptAll hb
  have a2 : At wf A #[.string (mkS (FI T pre))] 9 := (back_five h2 _).keptAll hb
  have a3 : At wf (A + 1) #[.int .i64 V] 3 := by
    have h := (At.drew (At.set h3.drew 0 (.int .i64 V))).keptAll hb
    simpa using h
  refine ⟨(k1.trans (KeepsOthers.setCell _ _ _)).from _, g1.trans (Held.setCell (b := A) _ _ (by omega) (by omega) (by omega)), a1.other (p := ⟨A, 0, none⟩) (by show w.heap.size ≠ A; omega) _, ?_, ?_, b1.setCell (p := ⟨A, 0, none⟩) (by show w.heap.size ≤ A; omega) _⟩
  · have h := a2.set 0 (.string (mkS (FI T pre) ++ mkS (formL cc)))
    rw [hsn, mkS_append]
    simpa using h
  · have h := a3.other (p := ⟨A, 0, none⟩) (by show A + 1 ≠ A; omega) (.string (mkS (FI T pre) ++ mkS (formL cc)))
    rw [hsn, List.length_append, hN, formL_len, hM]
    rw [hV] at h
    exact h

set_option maxRecDepth 100000 in
set_option maxHeartbeats 8000000 in
theorem back_in (a0 : ByteArray) (h0 : a0.size ≤ 140737488351232) (w : World) :
    CallsIn Fence.wide 3 Try.prog 3 #[.string a0] w fun e w' => e = .returned (.bool true) ∧ Below w.heap.size w w' := by
  have hnf : ∀ (f : Fn) (a b : Array Value) (w : World), Sem.run Try.prog (binOp BinOp.eql 24 (.func f a b) .nilFunc) w = .ok (.bool false) w := fun _ _ _ _ => by rfl
  have e1 : badOf ⟨#[255]⟩ = 0 := by decide
  have e2 : badOf ⟨#[97]⟩ = -1 := by decide
  obtain ⟨P0, hP0, hG, hb1, hb2⟩ := tells_all a0
  have hG' := hid hG
  have hb1' := hid hb1
  have hb2' := hid hb2
  have hP0' := hid hP0
  clear hG hb1 hb2 hP0
  refine callsIn_of_wp_marks Try.func3 rfl trivial ?_ rfl
  simp only [Try.ntmps3, List.size_toArray, List.length_cons, List.length_nil, Nat.reduceAdd, Nat.reduceSub, Array.replicate_succ, Array.replicate_zero, List.push_toArray, List.append_toArray, List.nil_append, List.cons_append]
  refine wpIn_wide.2 ?_
  go_wp2_with fail
  refine (badF_calls ⟨#[255]⟩ (by decide) _).mono ?_
  rintro e w1 ⟨rfl, hb⟩
  rw [e1]
  have q1 := hid (show At w1 w.heap.size #[.bool false] 4 from (At.new w _ _).keptAll hb)
  have B1 := hid (show Below w.heap.size w w1 from ((Below.refl _ w).alloc (Nat.le_refl _) _).trans (hb.mono (by simp)))
  clear hb
  go_wp2_with fail
  refine (badF_calls ⟨#[97]⟩ (by decide) _).mono ?_
  rintro e w2 ⟨rfl, hb⟩
  rw [e2]
  have q2 := hid (q1.out.keptAll hb)
  have B2 := hid (B1.out.trans (hb.mono B1.out.size))
  clear hb q1 B1 e1 e2
  go_wp2_with fail
  refine (runes_calls a0 _).mono ?_
  rintro e w3 ⟨rfl, hw3⟩
  obtain ⟨A, hA⟩ : ∃ A, w2.heap.size = A := ⟨_, rfl⟩
  have q3 : BackI w A (A + 1) (telOf a0) [] w3 := by
    rw [hw3, ← hA]
    refine ⟨((q2.out.alloc _).alloc _).alloc _, ((At.new w2 _ _).alloc _).alloc _, ?_, ((B2.out.alloc B2.out.size _).alloc (by simp; have := B2.out.size; omega) _).alloc (by simp; have := B2.out.size; omega) _⟩
    have h := (At.new (w2.alloc (.cells #[.string ⟨#[]⟩] 9)) #[.int .i64 0] 3).alloc (.cells #[.string a0] 9)
    rw [show (w2.alloc (.cells #[.string ⟨#[]⟩] 9)).heap.size = w2.heap.size + 1 by simp] at h
    exact h
  have hsl : At w3 (A + 1 + 1) #[.string a0] 9 := by
    have h := At.new ((w2.alloc (.cells #[.string ⟨#[]⟩] 9)).alloc (.cells #[.int .i64 0] 3)) #[.string a0] 9
    rw [hw3, ← hA]
    simpa using h
  have hz3 : w3.heap.size = A + 1 + 1 + 1 := by rw [hw3, ← hA]; simp
  have hAw : w.heap.size < A := by rw [← hA]; exact q2.out.lt
  have hs3 : ((w2.alloc (.cells #[.string ⟨#[]⟩] 9)).alloc (.cells #[.int .i64 0] 3)).heap.size = A + 1 + 1 := by rw [← hA]; simp
  rw [hs3, hA]
  clear hw3 q2 B2 hs3 hA
  go_wp2_with fail
  have hTl := hid (tel_len a0)
  refine (wpIn_wide (n := 3)).1 ?_
  refine range_free (n := 3) (by decide) (gf := 16) (lb := #[.pointer (some ⟨A + 1 + 1, 0, none⟩)]) rfl (enters_of Try.func16 (by kernel_rfl) rfl)
    (runes_free (3 - 1) (A + 1 + 1) w.heap.size (w3.heap.size + 1 + 1) a0 (by omega) w3 (Nat.le_refl _) hsl) (Below.refl _ _) (fun _ => rfl) Held.trans (fun W r r' h => Held.turn h (by omega) (by omega) (by omega))
    (BackI w A (A + 1) (telOf a0)) (fun co pre W => co = .ret ∧ ¬ ∃ k, k ≤ (telOf a0).length ∧ pre = List.range k)
    (fun _ X Y row h hg hr => h.free (B := w3.heap.size) (by omega) (by omega) (by omega) hg hr) (fun _ _ X Y row h hg hr => h) q3
    (fun x => { tmps := #[.string a0, undef, .pointer (some ⟨w.heap.size, 0, none⟩), .pointer (some ⟨A, 0, none⟩), .pointer (some ⟨A + 1, 0, none⟩), .func (.func 16) #[] #[.pointer (some ⟨A + 1 + 1, 0, none⟩)], .int .i64 ((((telOf a0).getD x (0, 0)).1 : Nat) : Int), .int .i32 ((((telOf a0).getD x (0, 0)).2 : Nat) : Int), undef, .int .i64 0, .bool false, .bool false, .int .i64 (-1), .bool false, .bool false, .string a0, .func (.func 16) #[] #[.pointer (some ⟨A + 1 + 1, 0, none⟩)], .func (.func 16) #[] #[.pointer (some ⟨A + 1 + 1, 0, none⟩)], .bool false, .func (.func 16) #[] #[.pointer (some ⟨A + 1 + 1, 0, none⟩)], .int .i64 ((((telOf a0).getD x (0, 0)).1 : Nat) : Int), .int .i32 ((((telOf a0).getD x (0, 0)).2 : Nat) : Int), undef, undef, undef, undef, undef, undef, undef, undef, undef, undef, undef, undef, undef, undef, undef, undef, undef, undef, undef, undef, undef, undef, undef, undef, undef, undef, undef, undef, undef, undef, undef, undef, undef, undef, undef, undef, undef, undef, undef, undef, undef, undef, undef, undef, undef, undef, undef, undef, undef, undef, undef, undef, undef, undef, undef, undef, undef, undef, undef, undef, undef, undef, undef, undef, undef], defers := [] })
    ?assign ?body ?done ?stop
  case assign =>
    intro l x W K hK
    rw [encU]
    generalize ((telOf a0).getD x (0, 0)).1 = p at *
    generalize ((telOf a0).getD x (0, 0)).2 = cc at *
    gi_wp2
    exact hK
  case stop =>
    rintro D co pre W hD hpre ⟨-, h⟩ hK
    exact absurd hpre h
  case body =>
    intro l pre x W hll hI hlt
    obtain ⟨h1, h2, h3, hB⟩ := hI
    have hlen := hid (FI_len (telOf a0) pre)
    have hpl := hid (show pre.length ≤ 140737488351232 by have := hTl.out; omega)
    have hcv : sizeN ((telOf a0).getD x (0, 0)).2 ≠ 0 := by
      rw [List.getD_eq_getElem?_getD]
      cases hx : (telOf a0)[x]? with
      | none => show sizeN 0 ≠ 0; decide
      | some y => exact hG'.out.2.1 y (List.mem_of_getElem? hx)
    have hne := hid (show ((telOf a0).getD x (0, 0)).1 ≠ (FI (telOf a0) pre).length → ¬ ∃ k, k ≤ (telOf a0).length ∧ pre ++ [x] = List.range k from fun hk ⟨k, hkl, hr⟩ => by
      have hl := congrArg List.length hr
      simp at hl
      have hx : (List.range k)[pre.length]? = some x := by rw [← hr]; simp
      rw [List.getElem?_range (by omega)] at hx
      have hx : pre.length = x := by simpa using hx
      have hp : pre = List.range pre.length := by
        have := congrArg (List.take pre.length) hr
        rw [List.take_append_of_le_length (Nat.le_refl _), List.take_length, List.take_range, Nat.min_eq_left (by omega)] at this
        exact this
      apply hk
      rw [hp, FI_range _ _ (by omega)]
      obtain ⟨y, hy⟩ : ∃ y, (telOf a0)[x]? = some y := ⟨_, List.getElem?_eq_getElem (by omega)⟩
      rw [List.getD_eq_getElem?_getD, hy]
      rw [hx]
      exact hG'.out.2.2 _ _ hy)
    have hsn := FI_snoc (telOf a0) pre x
    obtain ⟨⟨p, cc⟩, hpc⟩ : ∃ y, (telOf a0).getD x (0, 0) = y := ⟨_, rfl⟩
    rw [hpc] at hne hcv hsn
    simp only [hpc]
    clear hpc hlt
    have hsn' := hid hsn
    have hcv' := hid hcv
    have hfl := hid (FI_lt (telOf a0) pre)
    have k1 := h1.cell 0
    have k2 := h2.cell 0
    have k3 := h3.cell 0
    have f1 := h1.frozen 0
    have f3 := h3.frozen 0
    simp only [List.getElem?_toArray, List.getElem?_cons_zero] at k1 k2 k3
    have hms : (mkS (FI (telOf a0) pre)).size = (FI (telOf a0) pre).length := mkS_size _
    have hsz := hid (size_calls (cc : Int))
    have hszc : sizeZ (cc : Int) = sizeN cc := by unfold sizeZ; rw [if_neg (by omega)]; rfl
    rw [hszc] at hsz
    obtain ⟨N, hN⟩ : ∃ N : Nat, (FI (telOf a0) pre).length = N := ⟨_, rfl⟩
    rw [hN] at hne hlen hms k3
    have hN' := hid hN
    clear hszc hsn hcv
    by_cases hp : p = N
    · have hpi := hid hp
      obtain ⟨M, hM⟩ : ∃ M, sizeN cc = M := ⟨_, rfl⟩
      have hM0 : ¬ ((M : Int) = 0) := by have h : sizeN cc ≠ 0 := hcv'.out; omega
      have hM4 : M ≤ 4 := by rw [← hM]; exact sizeN_le cc
      rw [hM] at hsz
      have hM' := hid hM
      clear hne hN hM
      have hcat : (9223372036854775807 < N + (mkS (formL cc)).size) = False := by apply eq_false; rw [mkS_size, formL_len]; have := sizeN_le cc; have := hlen.out; have := hpl.out; omega
      have hNM : (N : Int) + (M : Int) ≤ 9223372036854775807 := by have := hlen.out; have := hpl.out; omega
      have hwr := hid (show IntKind.i64.wrap ((N : Int) + (M : Int)) = (N : Int) + (M : Int) by simp [IntKind.wrap, IntKind.signed, IntKind.bits]; omega)
      obtain ⟨V, hV⟩ : ∃ V, IntKind.i64.wrap ((N : Int) + (M : Int)) = V := ⟨_, rfl⟩
      have hVN := hid (hV.symm.trans hwr.out)
      have hpn : ((p : Int) != (N : Int)) = false := by rw [hp]; simp
      clear hp
      gi_wp2_with fail
      refine ⟨trivial, ?_⟩
      refine (CallsIn.inRound l (callsIn_wide.2 (hsz.out W))).mono ?_
      rintro e wq ⟨rfl, hwq⟩
      rw [hwq]
      clear hwq
      gi_wp2_with fail
      refine wpIn_region_round (S := fun _ => True) (by kernel_rfl) (by kernel_rfl) (fun _ _ h => h) trivial (fun hHeld => ?_)
      (refine' wpAnyH_take (i := 1) rfl (by kernel_rfl) (by kernel_rfl) (by kernel_rfl) (fun _ _ _ h => h) (Or.inl ⟨by rfl, ?_⟩) (by assumption) ?_; rotate_left; (· (intro wq hq; (try dsimp only at hq); go_simp; first | done | with_reducible rfl)); simp only [Act.put, List.getElem_toArray, List.getElem_cons_zero, List.getElem_cons_succ, List.setIfInBounds_toArray, List.set_cons_zero, List.set_cons_succ])
      refine wpAnyH_ready (rs := [0, 2]) (by kernel_rfl) (by simp) ?_
      refine AllReadyH.cons rfl (fun K hK => ?_) ?_
      · go_simp
        refine hK.out _ _ trivial (fun hH => ?_)
        clear hK K
        refine wpAnyH_ready (rs := [2]) (by kernel_rfl) (by simp) ?_
        refine AllReadyH.cons rfl (fun K hK => ?_) ?_
        · rw [if_pos (by rfl)]
          go_simp
          refine (hsz.out _).mono ?_
          rintro e wq ⟨rfl, hwq⟩
          rw [hwq]
          clear hwq
          refine hK.out _ _ trivial (fun hH => ?_)
          clear hK K
          (refine' wpAnyH_take (i := 3) rfl (by kernel_rfl) (by kernel_rfl) (by kernel_rfl) (fun _ _ _ h => h) (Or.inl ⟨by rfl, ?_⟩) (by assumption) ?_; rotate_left; (· (intro wq hq; (try dsimp only at hq); go_simp; first | done | with_reducible rfl)); simp only [Act.put, List.getElem_toArray, List.getElem_cons_zero, List.getElem_cons_succ, List.setIfInBounds_toArray, List.set_cons_zero, List.set_cons_succ])
          refine wpAnyH_ready (rs := [4]) (by kernel_rfl) (by simp) ?_
          refine AllReadyH.cons rfl (fun K hK => ?_) ?_
          · go_simp
            refine hK.out _ _ trivial (fun hH => ?_)
            clear hK K
            refine wpAnyH_done (by kernel_rfl) ?_ _
            first
              | (rename_i Kz hKz _t1 _t3; refine hKz _ _ ?_)
              | (rename_i Kz hKz _t1 _t2 _t3; refine hKz _ _ ?_)
              | (rename_i Kz hKz _t0 _t1 _t2 _t3; refine hKz _ _ ?_)
            have hA5 := back_five h2 V (A := A)
            have k5 := hA5.cell 0
            simp only [List.getElem?_toArray, List.getElem?_cons_zero] at k5
            gi_wp2_with fail
            refine wpIn_region_round (S := fun _ => True) (by kernel_rfl) (by kernel_rfl) (fun _ _ h => h) trivial (fun hHeld => ?_)
            (refine' wpAnyH_take (i := 1) rfl (by kernel_rfl) (by kernel_rfl) (by kernel_rfl) (fun _ _ _ h => h) (Or.inl ⟨by rfl, ?_⟩) (by assumption) ?_; rotate_left; (· (intro wq hq; (try dsimp only at hq); go_simp; first | done | with_reducible rfl)); simp only [Act.put, List.getElem_toArray, List.getElem_cons_zero, List.getElem_cons_succ, List.setIfInBounds_toArray, List.set_cons_zero, List.set_cons_succ])
            refine wpAnyH_ready (rs := [0, 2]) (by kernel_rfl) (by simp) ?_
            refine AllReadyH.cons rfl (fun K hK => ?_) ?_
            · go_simp
              refine hK.out _ _ trivial (fun hH => ?_)
              clear hK K
              refine wpAnyH_ready (rs := [2]) (by kernel_rfl) (by simp) ?_
              refine AllReadyH.cons rfl (fun K hK => ?_) ?_
              · rw [if_pos (by rfl)]
                go_simp
                refine (formc_calls hcv'.out _).mono ?_
                rintro e wf ⟨rfl, hb⟩
                have k2f : wf.cell? ⟨A, 0, none⟩ = some (.string (mkS (FI (telOf a0) pre))) := (hb.cell (p := ⟨A, 0, none⟩) hA5.lt).trans (hA5.cell 0)
                have f2f : wf.frozen? ⟨A, 0, none⟩ = false := (hb.frozen (p := ⟨A, 0, none⟩) hA5.lt).trans (hA5.frozen 0)
                refine hK.out _ _ trivial (fun hH => ?_)
                clear hK K
                (refine' wpAnyH_take (i := 3) rfl (by kernel_rfl) (by kernel_rfl) (by kernel_rfl) (fun _ _ _ h => h) (Or.inl ⟨by rfl, ?_⟩) (by assumption) ?_; rotate_left; (· (intro wq hq; (try dsimp only at hq); go_simp; first | done | with_reducible rfl)); simp only [Act.put, List.getElem_toArray, List.getElem_cons_zero, List.getElem_cons_succ, List.setIfInBounds_toArray, List.set_cons_zero, List.set_cons_succ])
                refine wpAnyH_ready (rs := [4]) (by kernel_rfl) (by simp) ?_
                refine AllReadyH.cons rfl (fun K hK => ?_) ?_
                · go_simp
                  refine hK.out _ _ trivial (fun hH => ?_)
                  clear hK K
                  refine wpAnyH_done (by kernel_rfl) ?_ _
                  exact back_round (W := W) (wf := wf) (A := A) (N := N) (M := M) (B := w3.heap.size + 1 + 1) (D := w3.heap.size) h1 h2 h3 hB hb hAw (by omega) (by omega) hsn'.out hN'.out hM'.out hVN.out
                · exact AllReadyH.nil
              · exact AllReadyH.nil
            · refine AllReadyH.cons rfl (fun K hK => ?_) ?_
              · rw [if_pos (by rfl)]
                go_simp
                refine (formc_calls hcv'.out _).mono ?_
                rintro e wf ⟨rfl, hb⟩
                have k2f : wf.cell? ⟨A, 0, none⟩ = some (.string (mkS (FI (telOf a0) pre))) := (hb.cell (p := ⟨A, 0, none⟩) hA5.lt).trans (hA5.cell 0)
                have f2f : wf.frozen? ⟨A, 0, none⟩ = false := (hb.frozen (p := ⟨A, 0, none⟩) hA5.lt).trans (hA5.frozen 0)
                refine hK.out _ _ trivial (fun hH => ?_)
                clear hK K
                refine wpAnyH_ready (rs := [0]) (by kernel_rfl) (by simp) ?_
                refine AllReadyH.cons rfl (fun K hK => ?_) ?_
                · go_simp
                  refine hK.out _ _ trivial (fun hH => ?_)
                  clear hK K
                  (refine' wpAnyH_take (i := 3) rfl (by kernel_rfl) (by kernel_rfl) (by kernel_rfl) (fun _ _ _ h => h) (Or.inl ⟨by rfl, ?_⟩) (by assumption) ?_; rotate_left; (· (intro wq hq; (try dsimp only at hq); go_simp; first | done | with_reducible rfl)); simp only [Act.put, List.getElem_toArray, List.getElem_cons_zero, List.getElem_cons_succ, List.setIfInBounds_toArray, List.set_cons_zero, List.set_cons_succ])
                  refine wpAnyH_ready (rs := [4]) (by kernel_rfl) (by simp) ?_
                  refine AllReadyH.cons rfl (fun K hK => ?_) ?_
                  · go_simp
                    refine hK.out _ _ trivial (fun hH => ?_)
                    clear hK K
                    refine wpAnyH_done (by kernel_rfl) ?_ _
                    exact back_round (W := W) (wf := wf) (A := A) (N := N) (M := M) (B := w3.heap.size + 1 + 1) (D := w3.heap.size) h1 h2 h3 hB hb hAw (by omega) (by omega) hsn'.out hN'.out hM'.out hVN.out
                  · exact AllReadyH.nil
                · exact AllReadyH.nil
              · exact AllReadyH.nil
          · exact AllReadyH.nil
        · exact AllReadyH.nil
      · refine AllReadyH.cons rfl (fun K hK => ?_) ?_
        · rw [if_pos (by rfl)]
          go_simp
          refine (hsz.out _).mono ?_
          rintro e wq ⟨rfl, hwq⟩
          rw [hwq]
          clear hwq
          refine hK.out _ _ trivial (fun hH => ?_)
          clear hK K
          refine wpAnyH_ready (rs := [0]) (by kernel_rfl) (by simp) ?_
          refine AllReadyH.cons rfl (fun K hK => ?_) ?_
          · go_simp
            refine hK.out _ _ trivial (fun hH => ?_)
            clear hK K
            (refine' wpAnyH_take (i := 3) rfl (by kernel_rfl) (by kernel_rfl) (by kernel_rfl) (fun _ _ _ h => h) (Or.inl ⟨by rfl, ?_⟩) (by assumption) ?_; rotate_left; (· (intro wq hq; (try dsimp only at hq); go_simp; first | done | with_reducible rfl)); simp only [Act.put, List.getElem_toArray, List.getElem_cons_zero, List.getElem_cons_succ, List.setIfInBounds_toArray, List.set_cons_zero, List.set_cons_succ])
            refine wpAnyH_ready (rs := [4]) (by kernel_rfl) (by simp) ?_
            refine AllReadyH.cons rfl (fun K hK => ?_) ?_
            · go_simp
              refine hK.out _ _ trivial (fun hH => ?_)
              clear hK K
              refine wpAnyH_done (by kernel_rfl) ?_ _
              first
                | (rename_i Kz hKz _t1 _t3; refine hKz _ _ ?_)
                | (rename_i Kz hKz _t1 _t2 _t3; refine hKz _ _ ?_)
                | (rename_i Kz hKz _t0 _t1 _t2 _t3; refine hKz _ _ ?_)
              have hA5 := back_five h2 V (A := A)
              have k5 := hA5.cell 0
              simp only [List.getElem?_toArray, List.getElem?_cons_zero] at k5
              gi_wp2_with fail
              refine wpIn_region_round (S := fun _ => True) (by kernel_rfl) (by kernel_rfl) (fun _ _ h => h) trivial (fun hHeld => ?_)
              (refine' wpAnyH_take (i := 1) rfl (by kernel_rfl) (by kernel_rfl) (by kernel_rfl) (fun _ _ _ h => h) (Or.inl ⟨by rfl, ?_⟩) (by assumption) ?_; rotate_left; (· (intro wq hq; (try dsimp only at hq); go_simp; first | done | with_reducible rfl)); simp only [Act.put, List.getElem_toArray, List.getElem_cons_zero, List.getElem_cons_succ, List.setIfInBounds_toArray, List.set_cons_zero, List.set_cons_succ])
              refine wpAnyH_ready (rs := [0, 2]) (by kernel_rfl) (by simp) ?_
              refine AllReadyH.cons rfl (fun K hK => ?_) ?_
              · go_simp
                refine hK.out _ _ trivial (fun hH => ?_)
                clear hK K
                refine wpAnyH_ready (rs := [2]) (by kernel_rfl) (by simp) ?_
                refine AllReadyH.cons rfl (fun K hK => ?_) ?_
                · rw [if_pos (by rfl)]
                  go_simp
                  refine (formc_calls hcv'.out _).mono ?_
                  rintro e wf ⟨rfl, hb⟩
                  have k2f : wf.cell? ⟨A, 0, none⟩ = some (.string (mkS (FI (telOf a0) pre))) := (hb.cell (p := ⟨A, 0, none⟩) hA5.lt).trans (hA5.cell 0)
                  have f2f : wf.frozen? ⟨A, 0, none⟩ = false := (hb.frozen (p := ⟨A, 0, none⟩) hA5.lt).trans (hA5.frozen 0)
                  refine hK.out _ _ trivial (fun hH => ?_)
                  clear hK K
                  (refine' wpAnyH_take (i := 3) rfl (by kernel_rfl) (by kernel_rfl) (by kernel_rfl) (fun _ _ _ h => h) (Or.inl ⟨by rfl, ?_⟩) (by assumption) ?_; rotate_left; (· (intro wq hq; (try dsimp only at hq); go_simp; first | done | with_reducible rfl)); simp only [Act.put, List.getElem_toArray, List.getElem_cons_zero, List.getElem_cons_succ, List.setIfInBounds_toArray, List.set_cons_zero, List.set_cons_succ])
                  refine wpAnyH_ready (rs := [4]) (by kernel_rfl) (by simp) ?_
                  refine AllReadyH.cons rfl (fun K hK => ?_) ?_
                  · go_simp
                    refine hK.out _ _ trivial (fun hH => ?_)
                    clear hK K
                    refine wpAnyH_done (by kernel_rfl) ?_ _
                    exact back_round (W := W) (wf := wf) (A := A) (N := N) (M := M) (B := w3.heap.size + 1 + 1) (D := w3.heap.size) h1 h2 h3 hB hb hAw (by omega) (by omega) hsn'.out hN'.out hM'.out hVN.out
                  · exact AllReadyH.nil
                · exact AllReadyH.nil
              · refine AllReadyH.cons rfl (fun K hK => ?_) ?_
                · rw [if_pos (by rfl)]
                  go_simp
                  refine (formc_calls hcv'.out _).mono ?_
                  rintro e wf ⟨rfl, hb⟩
                  have k2f : wf.cell? ⟨A, 0, none⟩ = some (.string (mkS (FI (telOf a0) pre))) := (hb.cell (p := ⟨A, 0, none⟩) hA5.lt).trans (hA5.cell 0)
                  have f2f : wf.frozen? ⟨A, 0, none⟩ = false := (hb.frozen (p := ⟨A, 0, none⟩) hA5.lt).trans (hA5.frozen 0)
                  refine hK.out _ _ trivial (fun hH => ?_)
                  clear hK K
                  refine wpAnyH_ready (rs := [0]) (by kernel_rfl) (by simp) ?_
                  refine AllReadyH.cons rfl (fun K hK => ?_) ?_
                  · go_simp
                    refine hK.out _ _ trivial (fun hH => ?_)
                    clear hK K
                    (refine' wpAnyH_take (i := 3) rfl (by kernel_rfl) (by kernel_rfl) (by kernel_rfl) (fun _ _ _ h => h) (Or.inl ⟨by rfl, ?_⟩) (by assumption) ?_; rotate_left; (· (intro wq hq; (try dsimp only at hq); go_simp; first | done | with_reducible rfl)); simp only [Act.put, List.getElem_toArray, List.getElem_cons_zero, List.getElem_cons_succ, List.setIfInBounds_toArray, List.set_cons_zero, List.set_cons_succ])
                    refine wpAnyH_ready (rs := [4]) (by kernel_rfl) (by simp) ?_
                    refine AllReadyH.cons rfl (fun K hK => ?_) ?_
                    · go_simp
                      refine hK.out _ _ trivial (fun hH => ?_)
                      clear hK K
                      refine wpAnyH_done (by kernel_rfl) ?_ _
                      exact back_round (W := W) (wf := wf) (A := A) (N := N) (M := M) (B := w3.heap.size + 1 + 1) (D := w3.heap.size) h1 h2 h3 hB hb hAw (by omega) (by omega) hsn'.out hN'.out hM'.out hVN.out
                    · exact AllReadyH.nil
                  · exact AllReadyH.nil
                · exact AllReadyH.nil
            · exact AllReadyH.nil
          · exact AllReadyH.nil
        · exact AllReadyH.nil
    · have hout := hid (hne.out hp)
      have hp' : ((p : Int) != (N : Int)) = true := by simp; omega
      clear hne hp hN
      gi_wp2_with fail
      refine ⟨trivial, ?_⟩
      gi_wp2
      all_goals (try (exfalso; exact undef_bool7 (by assumption)))
      exact ⟨(KeepsOthers.setCell _ _ _).from _, Held.setCell (b := w.heap.size) _ _ (by omega) (by omega) (by omega), rfl, hout.out⟩
  case done =>
    rintro D xs W hD rfl ⟨h1, h2, h3, hB⟩ hK
    rw [FI_range _ _ (Nat.le_refl _), List.take_length, hG'.out.1] at h2 h3
    rw [List.length_take, byts_length, Nat.min_eq_left hP0'.out] at h3
    obtain ⟨AS, hAS⟩ : ∃ AS, mkS ((byts a0).take P0) = AS := ⟨_, rfl⟩
    rw [hAS] at h2
    have hlt : ∀ x ∈ (byts a0).take P0, x < 256 := fun x hx => byts_lt7 a0 x (List.mem_of_mem_take hx)
    have hASb : byts AS = (byts a0).take P0 := by rw [← hAS]; exact byts_mkS hlt
    have hASs : AS.size = P0 := by rw [← byts_length, hASb, List.length_take, byts_length]; exact Nat.min_eq_left hP0'.out
    have hEx : a0.extract 0 P0 = AS := by apply byts_inj; rw [byts_extract, hASb]; rfl
    have hASbad := hid (show badOf AS = -1 by unfold badOf; rw [hASb, ← hG'.out.1]; exact forms_bad _ hG'.out.2.1)
    have hcall := hid (show ∀ wz, Calls Try.prog 6 #[.string AS] wz fun e w' => e = .returned (.int .i64 (-1)) ∧ Below wz.heap.size wz w' from fun wz => by
      have h := badF_calls AS (by rw [hASs]; have := hP0'.out; omega) wz
      rw [hASbad.out] at h
      exact h)
    have hP1 : (P0 : Int) ≤ (a0.size : Int) := by have := hP0'.out; omega
    have hP2 : ¬ ((a0.size : Int) < (P0 : Int)) := by omega
    have hP3 : decide (a0.size < P0) = false := by simp; omega
    have hP4 : P0 ≤ a0.size := hP0'.out
    have h1' := hid h1
    have h2' := hid h2
    have h3' := hid h3
    have hB' := hid hB
    have hK' := hid hK
    have hba := hid (badF_calls a0 (by omega))
    have hASb' := hid hASb
    clear h1 h2 h3 hB hK hAS hlt q3 hsl hASb
    go_wp2_with fail
    refine (hba.out _).mono ?_
    rintro e v1 ⟨rfl, hb⟩
    have h1v := hid (h1'.out.keptAll hb)
    have h2v := hid (h2'.out.keptAll hb)
    have h3v := hid (h3'.out.keptAll hb)
    have hBv := hid (hB'.out.trans (hb.mono hB'.out.size))
    have hKv := hid ((hb.block D (Array.getElem?_eq_some_iff.1 hK'.out).1).trans hK'.out)
    have hbv := hid hb
    clear hb h1' h2' h3' hB' hK' hba
    go_wp2_with fail
    refine wp_region_quiet (C := (fun w' => w'.cell? ⟨A, 0, none⟩ = some (.string AS) ∧ w'.cell? ⟨A + 1, 0, none⟩ = some (.int .i64 (P0 : Int)) ∧ Below v1.heap.size v1 w')) (by kernel_rfl) (by kernel_rfl) (⟨h2v.out.cell 0, h3v.out.cell 0, (Below.refl _ _).drew⟩) ?_
    dsimp only
    repeat (first
      | (refine wpQuiet_skip (by rfl) ?_; simp only [Act.put, List.setIfInBounds_toArray, List.set_cons_zero, List.set_cons_succ])
      | (refine' wpQuiet_take (by rfl) ?_ ?_
         rotate_left
         · (intro wq hq; (try dsimp only at hq); go_simp
            first
              | done
              | with_reducible rfl
              | (go_at_call 6; with_reducible refine (hcall.out wq).mono ?_; rintro e wz ⟨rfl, hb⟩; exact ⟨rfl, (hb.cell (p := ⟨A, 0, none⟩) (cell_lt7 hq.1)).trans hq.1, (hb.cell (p := ⟨A + 1, 0, none⟩) (cell_lt7 hq.2.1)).trans hq.2.1, hq.2.2.trans (hb.mono hq.2.2.size)⟩)
           )
         simp only [Act.put, List.setIfInBounds_toArray, List.set_cons_zero, List.set_cons_succ]))
    refine wpQuiet_nil ?_
    intro v2 hv2
    have hAt := h1v.out.keptAll hv2.2.2
    have c1 := hAt.cell 0
    have f1 := hAt.frozen 0
    have c2 := hv2.1
    have hBf := hid (hBv.out.trans (hv2.2.2.mono hBv.out.size))
    have hKf := hid ((hv2.2.2.block D (Array.getElem?_eq_some_iff.1 hKv.out).1).trans hKv.out)
    simp only [List.getElem?_toArray, List.getElem?_cons_zero] at c1
    clear hAt hv2 h1v h2v h3v hBv hKv hbv hcall hEx hP3
    rcases hb2'.out with hm | ⟨n, hn, n1, n2, n3⟩
    · have hAa : AS = a0 := by apply byts_inj; rw [hASb'.out, hb1'.out hm, byts_whole]
      rw [hAa] at c2 ⊢
      rw [hm]
      clear hASs hP1 hP2 hP4
      have hB2 := hid (hBf.out.setCell (p := ⟨w.heap.size, 0, none⟩) (by show w.heap.size ≤ w.heap.size; omega) (.bool true))
      have hK2 := hid (show (v2.setCell ⟨w.heap.size, 0, none⟩ (.bool true)).heap[D]? = some (.deferred (some [])) from (Below.heap_setCell v2 ⟨w.heap.size, 0, none⟩ _ D (by show D ≠ w.heap.size; omega)).trans hKf.out)
      have hc5 := hid (cell_kept (World.cell?_setCell_same' v2 ⟨w.heap.size, 0, none⟩ (.bool true) (by rw [c1]; rfl)) (grownBy_putObj' _ D (.deferred none)) (fun r e => by cases e; exact ⟨_, hK2.out, rfl⟩))
      go_wp2
      refine ⟨by simp, .inl ⟨_, _, rfl, run_takeDeferred hK2.out, ?_⟩⟩
      refine ⟨.bool true, ?_, rfl, hB2.out.trans (belowK_b (w := w) (Nat.le_refl _) _ D _ _ (by omega) hK2.out rfl rfl)⟩
      have hc6 := hc5.out
      simp [results, Try.f3, go_sem, hc6]
    · rw [hn]
      have m1 : ¬ ((n : Int) = -1) := by omega
      have m2 : (P0 : Int) ≤ (n : Int) := by omega
      have m3 : (n : Int) ≤ (a0.size : Int) := by omega
      have m4 : (n : Int) < (P0 : Int) + 4 := by omega
      have m5 : wrap64 ((P0 : Int) + 4) = (P0 : Int) + 4 := by unfold wrap64; omega
      have m6 := hid h0
      clear n1 n2 n3 hP1 hP2 hP4 h0 hn
      have hB2 := hid (hBf.out.setCell (p := ⟨w.heap.size, 0, none⟩) (by show w.heap.size ≤ w.heap.size; omega) (.bool true))
      have hK2 := hid (show (v2.setCell ⟨w.heap.size, 0, none⟩ (.bool true)).heap[D]? = some (.deferred (some [])) from (Below.heap_setCell v2 ⟨w.heap.size, 0, none⟩ _ D (by show D ≠ w.heap.size; omega)).trans hKf.out)
      have hc5 := hid (cell_kept (World.cell?_setCell_same' v2 ⟨w.heap.size, 0, none⟩ (.bool true) (by rw [c1]; rfl)) (grownBy_putObj' _ D (.deferred none)) (fun r e => by cases e; exact ⟨_, hK2.out, rfl⟩))
      go_wp2
      refine ⟨by simp, .inl ⟨_, _, rfl, run_takeDeferred hK2.out, ?_⟩⟩
      refine ⟨.bool true, ?_, rfl, hB2.out.trans (belowK_b (w := w) (Nat.le_refl _) _ D _ _ (by omega) hK2.out rfl rfl)⟩
      have hc6 := hc5.out
      simp [results, Try.f3, go_sem, hc6]
theorem utf8Back_walk (a0 : ByteArray) (h0 : a0.size ≤ reachBytes) (w : World) :
    Calls Try.prog 3 #[.string a0] w fun e w' => e = .returned (.bool true) ∧ Below w.heap.size w w' := callsIn_wide.1 (back_in a0 h0 w)
end Go.Proofs.Ytkkmaakgacnfoab
