/-
  TextsSpells: a text's characters, each spelled in another way, mean the text all the same.
-/
import Derived.Test.YtlcihopklnnhdaaTxSpelled
import Derived.Test.YtlcihopklnnhdaaTxAwake
import Derived.Test.YtlcihopklnnhdaaRunesSeq
import Derived.Test.YtlcihopklnnhdaaUtf8Tell
import Derived.Test.YtlcihopklnnhdaaUtf8Read
import Derived.Test.YtlcihopklnnhdaaTelLen
import Derived.Test.YtlcihopklnnhdaaBytOpen
namespace Go.Proofs.Ytlcihopklnnhdaa
open Go.RowKit Go.Shelf

attribute [local go_sem] Oper.semAt_some

theorem undef_bool7 {b : Bool} (h : some undef = some (Value.bool b)) : False := by first | (cases h; done) | (simp [undef] at h)
/-- The forms of what was told, by the numbers of the rounds. -/
def FI (T : List (Nat × Nat)) (pre : List Nat) : List Nat := (pre.map fun x => formL (T.getD x (0, 0)).2).flatten
theorem FI_snoc (T : List (Nat × Nat)) (pre : List Nat) (x : Nat) : FI T (pre ++ [x]) = FI T pre ++ formL (T.getD x (0, 0)).2 := by unfold FI; rw [List.map_append, List.flatten_append]; simp
theorem FI_range (T : List (Nat × Nat)) (k : Nat) (hk : k ≤ T.length) : FI T (List.range k) = Forms (T.take k) := by
  induction k with
  | zero => rfl
  | succ k ih =>
    rw [List.range_succ, FI_snoc, ih (by omega), List.take_add_one, List.getElem?_eq_getElem (by omega)]
    show _ = Forms (T.take k ++ [_])
    rw [Forms_snoc, List.getD_eq_getElem?_getD, List.getElem?_eq_getElem (by omega)]
    rfl
theorem FI_len (T : List (Nat × Nat)) (pre : List Nat) : (FI T pre).length ≤ 4 * pre.length := by
  induction pre with
  | nil => exact Nat.le_refl _
  | cons x r ih =>
    show ((formL (T.getD x (0, 0)).2) ++ FI T r).length ≤ 4 * (r.length + 1)
    rw [List.length_append, formL_len]
    have := sizeN_le (T.getD x (0, 0)).2
    omega
/-- What stands between quotes behind these rounds. -/
def SpR (T : List (Nat × Nat)) (pre : List Nat) (R : ByteArray) : Prop := okU (byts R) ∧ unescL (byts R) = some (FI T pre) ∧ R.size ≤ 6 * (FI T pre).length
theorem SpR.next {T : List (Nat × Nat)} {pre : List Nat} {R t : ByteArray} {x c : Nat} (h : SpR T pre R) (hsn : FI T (pre ++ [x]) = FI T pre ++ formL c) (hc : sizeN c ≠ 0) (ht : PieceOk c (byts t)) : SpR T (pre ++ [x]) (R ++ t) := by
  obtain ⟨h1, h2, h3⟩ := h
  obtain ⟨g1, g2⟩ := piece_behind (byts_lt R) h1 h2 ht
  refine ⟨by rw [byts_append]; exact g1, by rw [byts_append, g2, hsn, form_char hc], ?_⟩
  rw [ByteArray.size_append, hsn, List.length_append, formL_len]
  have := ht.1
  rw [byts_length] at this
  omega
/-- Between two rounds: the row that came in, what stands between quotes, and how many characters it has. -/
def SpI (w : World) (A : Nat) (v : Value) (T : List (Nat × Nat)) (pre : List Nat) (W : World) : Prop :=
  At W w.heap.size #[v] 32 ∧ (∃ R, At W A #[.string R] 9 ∧ SpR T pre R) ∧ At W (A + 1) #[.int .i64 ((pre.length : Nat) : Int)] 3 ∧ Below w.heap.size w W
theorem SpI.free {w W W' : World} {A B : Nat} {v : Value} {T : List (Nat × Nat)} {pre : List Nat} (h : SpI w A v T pre W) (hA : A + 1 < B) (hB : w.heap.size < B) {row : Option Nat} (hg : W.grownBy W' row) (hr : ∀ r, row = some r → B ≤ r) : SpI w A v T pre W' := by
  obtain ⟨h1, ⟨R, h2, hR⟩, h3, h4⟩ := h
  exact ⟨h1.free (B := B) hB hg hr, ⟨R, h2.free (B := B) (by omega) hg hr, hR⟩, h3.free (B := B) hA hg hr, below_free (B := B) h4 (by omega) (by have := h1.lt; omega) hg hr⟩
/-- A round's end. -/
theorem sp_round {w W wf : World} {A B D l : Nat} {v : Value} {T : List (Nat × Nat)} {pre : List Nat} {x cc : Nat} {R t : ByteArray} (h1 : At W w.heap.size #[v] 32) (h2 : At W A #[.string R] 9) (h3 : At W (A + 1) #[.int .i64 ((pre.length : Nat) : Int)] 3) (hB : Below w.heap.size w W)
    (hb : Below W.drew.heap.size W.drew wf) (hAw : w.heap.size < A) (hAB : A + 1 < B) (hl : A + 1 + 1 = l)
    (hsn : FI T (pre ++ [x]) = FI T pre ++ formL cc ∧ sizeN cc ≠ 0) (hR : SpR T pre R) (ht : PieceOk cc (byts t)) :
    (wf.setCell ⟨A, 0, none⟩ (.string (R ++ t))).cell? ⟨A + 1, 0, none⟩ = some (.int .i64 ((pre.length : Nat) : Int)) ∧ (wf.setCell ⟨A, 0, none⟩ (.string (R ++ t))).frozen? ⟨A + 1, 0, none⟩ = false ∧
    KeepsFrom D W ((wf.setCell ⟨A, 0, none⟩ (.string (R ++ t))).setCell ⟨A + 1, 0, none⟩ (.int .i64 ((pre.length : Nat) + 1 : Int))) ∧ Held w.heap.size B l W ((wf.setCell ⟨A, 0, none⟩ (.string (R ++ t))).setCell ⟨A + 1, 0, none⟩ (.int .i64 ((pre.length : Nat) + 1 : Int))) ∧ SpI w A v T (pre ++ [x]) ((wf.setCell ⟨A, 0, none⟩ (.string (R ++ t))).setCell ⟨A + 1, 0, none⟩ (.int .i64 ((pre.length : Nat) + 1 : Int))) := by
  have hlt := h1.lt
  have k1 := (((KeepsOthers.drew W).trans (keeps_below hb)).trans (KeepsOthers.setCell _ ⟨A, 0, none⟩ (.string (R ++ t)))).trans (KeepsOthers.setCell _ ⟨A + 1, 0, none⟩ (.int .i64 ((pre.length : Nat) + 1 : Int)))
  have g1 := (((Held.drew (n0 := w.heap.size) (B := B) (Bx := l) W).trans (Held.below (by show w.heap.size ≤ W.drew.heap.size; simp; omega) hb)).trans (Held.setCell (b := A) _ (.string (R ++ t)) (by omega) (by omega) (by omega))).trans (Held.setCell (b := A + 1) _ (.int .i64 ((pre.length : Nat) + 1 : Int)) (by omega) (by omega) (by omega))
  have b1 : Below w.heap.size w wf := (hB.drew).trans (hb.mono (by simp; omega))
  have a1 : At wf w.heap.size #[v] 32 := (h1.drew).keptAll hb
  have a2 : At wf A #[.string R] 9 := (h2.drew).keptAll hb
  have a3 : At wf (A + 1) #[.int .i64 ((pre.length : Nat) : Int)] 3 := (h3.drew).keptAll hb
  have b3 := a3.other (p := ⟨A, 0, none⟩) (by show A + 1 ≠ A; omega) (.string (R ++ t))
  have b2 : At (wf.setCell ⟨A, 0, none⟩ (.string (R ++ t))) A #[.string (R ++ t)] 9 := by simpa using a2.set 0 (.string (R ++ t))
  have c3 := b3.cell 0
  simp only [List.getElem?_toArray, List.getElem?_cons_zero] at c3
  refine ⟨c3, b3.frozen 0, k1.from _, g1, ?_, ⟨R ++ t, ?_, hR.next hsn.1 hsn.2 ht⟩, ?_, (b1.setCell (p := ⟨A, 0, none⟩) (by show w.heap.size ≤ A; omega) _).setCell (p := ⟨A + 1, 0, none⟩) (by show w.heap.size ≤ A + 1; omega) _⟩
  · exact (a1.other (p := ⟨A, 0, none⟩) (by show w.heap.size ≠ A; omega) _).other (p := ⟨A + 1, 0, none⟩) (by show w.heap.size ≠ A + 1; omega) _
  · exact b2.other (p := ⟨A + 1, 0, none⟩) (by show A ≠ A + 1; omega) _
  · have h := b3.set 0 (.int .i64 ((pre.length : Nat) + 1 : Int))
    rw [List.length_append, List.length_singleton]
    simpa using h

set_option maxRecDepth 100000 in
set_option maxHeartbeats 8000000 in
theorem spells_in (a0 : ByteArray) (h0 : a0.size ≤ 140737488351232) (ao : Option Addr) (cap : Nat) (xs : List Nat) (hxs : xs.length ≤ 140737488351232) (w : World) (hby : BytesOf w ao xs) (h15 : Ok15 w) :
    CallsIn Fence.wide 3 Try.prog 8 #[.string a0, .slice ao xs.length cap] w fun e w' => e = .returned (.bool true) ∧ Below w.heap.size w w' := by
  have hnf : ∀ (f : Fn) (a b : Array Value) (w : World), Sem.run Try.prog (binOp BinOp.eql 34 (.func f a b) .nilFunc) w = .ok (.bool false) w := fun _ _ _ _ => by rfl
  obtain ⟨P0, hP0, hG, hb1, hb2⟩ := tells_all a0
  have h15' := hid h15
  have hG' := hid hG
  have hb1' := hid hb1
  have hby' := hid hby
  clear hG hb1 hb2 hby h15
  obtain ⟨vS, hvS⟩ : ∃ vS, Hid (Value.slice ao xs.length cap = vS) := ⟨_, rfl⟩
  rw [hvS.out]
  by_cases hB0 : 0 ≤ badOf a0
  · obtain ⟨B, hB⟩ : ∃ B, Hid (badOf a0 = B) := ⟨_, rfl⟩
    have hB1 : 0 ≤ B := by rw [← hB.out]; exact hB0
    clear hB0
    refine callsIn_of_wp_marks Try.func8 rfl trivial ?_ rfl
    simp only [Try.ntmps8, List.size_toArray, List.length_cons, List.length_nil, Nat.reduceAdd, Nat.reduceSub, Array.replicate_succ, Array.replicate_zero, List.push_toArray, List.append_toArray, List.nil_append, List.cons_append]
    refine wpIn_wide.2 ?_
    go_wp2_with fail
    refine (badF_calls a0 (by omega) _).mono ?_
    rintro e w1 ⟨rfl, hb⟩
    have B1 := hid (show Below w.heap.size w w1 from ((Below.refl _ w).alloc (Nat.le_refl _) _).trans (hb.mono (by simp)))
    clear hb
    rw [hB.out]
    go_wp2_with fail
    refine (awake15_calls _ (h15'.out.below B1.out)).mono ?_
    rintro e w2 ⟨rfl, hb⟩
    have B2 := hid (B1.out.trans (hb.mono B1.out.size))
    clear hb
    go_wp2
    refine ⟨.bool true, ?_, rfl, B2.out⟩
    simp [results, Try.f8, go_sem]
  have hbad : Hid (badOf a0 = -1) := hid (ok_bad (bad_ok hB0))
  clear hB0
  refine callsIn_of_wp_marks Try.func8 rfl trivial ?_ rfl
  simp only [Try.ntmps8, List.size_toArray, List.length_cons, List.length_nil, Nat.reduceAdd, Nat.reduceSub, Array.replicate_succ, Array.replicate_zero, List.push_toArray, List.append_toArray, List.nil_append, List.cons_append]
  refine wpIn_wide.2 ?_
  go_wp2_with fail
  refine (badF_calls a0 (by omega) _).mono ?_
  rintro e w2 ⟨rfl, hb⟩
  have q2 := hid (show At w2 w.heap.size #[vS] 32 from (At.new w _ _).keptAll hb)
  have B2 := hid (show Below w.heap.size w w2 from ((Below.refl _ w).alloc (Nat.le_refl _) _).trans (hb.mono (by simp)))
  clear hb
  rw [hbad.out]
  go_wp2_with fail
  refine (runes_calls a0 _).mono ?_
  rintro e w3 ⟨rfl, hw3⟩
  obtain ⟨A, hA⟩ : ∃ A, w2.heap.size = A := ⟨_, rfl⟩
  have q3 : SpI w A vS (telOf a0) [] w3 := by
    rw [hw3, ← hA]
    refine ⟨((q2.out.alloc _).alloc _).alloc _, ⟨⟨#[]⟩, ((At.new w2 _ _).alloc _).alloc _, ⟨q50, rfl, rfl⟩, rfl, Nat.zero_le _⟩, ?_, ((B2.out.alloc B2.out.size _).alloc (by simp; have := B2.out.size; omega) _).alloc (by simp; have := B2.out.size; omega) _⟩
    have h := (At.new (w2.alloc (.cells #[.string ⟨#[]⟩] 9)) #[.int .i64 0] 3).alloc (.cells #[.string a0] 9)
    rw [show (w2.alloc (.cells #[.string ⟨#[]⟩] 9)).heap.size = w2.heap.size + 1 by simp] at h
    exact h
  have hsl : At w3 (A + 1 + 1) #[.string a0] 9 := by
    have h := At.new ((w2.alloc (.cells #[.string ⟨#[]⟩] 9)).alloc (.cells #[.int .i64 0] 3)) #[.string a0] 9
    rw [hw3, ← hA]
    simpa using h
  have hz3 : w3.heap.size = A + 1 + 1 + 1 := by rw [hw3, ← hA]; simp
  have hAw : w.heap.size < A := by rw [← hA]; exact q2.out.lt
  have hs3 : ((w2.alloc (.cells #[.string ⟨#[]⟩] 9)).alloc (.cells #[.int .i64 0] 3)).heap.size = A + 1 + 1 := by rw [← hA]; simp
  rw [hs3, hA]
  clear hw3 q2 B2 hs3 hA
  go_wp2_with fail
  have hTl := hid (tel_len a0)
  refine (wpIn_wide (n := 3)).1 ?_
  refine range_free (n := 3) (by decide) (gf := 37) (lb := #[.pointer (some ⟨A + 1 + 1, 0, none⟩)]) rfl (enters_of Try.func37 (by kernel_rfl) rfl)
    (runes_free (3 - 1) (A + 1 + 1) w.heap.size (w3.heap.size + 1 + 1) a0 (by omega) w3 (Nat.le_refl _) hsl) (Below.refl _ _) (fun _ => rfl) Held.trans (fun W r r' h => Held.turn h (by omega) (by omega) (by omega))
    (SpI w A vS (telOf a0)) (fun _ _ _ => False)
    (fun _ X Y row h hg hr => h.free (B := w3.heap.size) (by omega) (by omega) hg hr) (fun _ _ X Y row h hg hr => h) q3
    (fun x => { tmps := #[.string a0, vS, undef, .pointer (some ⟨w.heap.size, 0, none⟩), .bool false, .pointer (some ⟨A, 0, none⟩), .pointer (some ⟨A + 1, 0, none⟩), .func (.func 37) #[] #[.pointer (some ⟨A + 1 + 1, 0, none⟩)], undef, .int .i32 ((((telOf a0).getD x (0, 0)).2 : Nat) : Int), undef, undef, undef, .string a0, .int .i64 (-1), .bool false, undef, .string a0, .func (.func 37) #[] #[.pointer (some ⟨A + 1 + 1, 0, none⟩)], .func (.func 37) #[] #[.pointer (some ⟨A + 1 + 1, 0, none⟩)], .bool false, .func (.func 37) #[] #[.pointer (some ⟨A + 1 + 1, 0, none⟩)], .int .i64 ((((telOf a0).getD x (0, 0)).1 : Nat) : Int), .int .i32 ((((telOf a0).getD x (0, 0)).2 : Nat) : Int), undef, undef, undef, undef, undef, undef, undef, undef, undef, undef, undef, undef, undef, undef, undef, undef, undef, undef, undef, undef, undef, undef, undef, undef, undef, undef, undef, undef, undef, undef, undef, undef, undef, undef, undef, undef, undef, undef], defers := [] })
    ?assign ?body ?done ?stop
  case assign =>
    intro l x W K hK
    rw [encU]
    generalize ((telOf a0).getD x (0, 0)).1 = p at *
    generalize ((telOf a0).getD x (0, 0)).2 = cc at *
    gi_wp2
    exact hK
  case stop =>
    rintro D co pre W hD hpre h hK
    exact h.elim
  case body =>
    intro l pre x W hll hI hlt
    obtain ⟨h1, ⟨R, h2, hR⟩, h3, hB⟩ := hI
    have hlen := hid (FI_len (telOf a0) pre)
    have hpl := hid (show pre.length < 140737488351232 by have := hTl.out; omega)
    have hpi : ((pre.length : Nat) : Int) < 140737488351232 := by have := hpl.out; omega
    have hRs : R.size ≤ 3377699720429568 := by have := hR.2.2; have := hlen.out; have := hpl.out; omega
    have hR' := hid hR
    have hcv : sizeN ((telOf a0).getD x (0, 0)).2 ≠ 0 := by
      rw [List.getD_eq_getElem?_getD]
      cases hx : (telOf a0)[x]? with
      | none => show sizeN 0 ≠ 0; decide
      | some y => exact hG'.out.2.1 y (List.mem_of_getElem? hx)
    have hsn := FI_snoc (telOf a0) pre x
    obtain ⟨⟨p, cc⟩, hpc⟩ : ∃ y, (telOf a0).getD x (0, 0) = y := ⟨_, rfl⟩
    rw [hpc] at hcv hsn
    simp only [hpc]
    clear hpc hlt hR
    have hsn' := hid (And.intro hsn hcv)
    have hbyW := hby'.out.below hB
    have k1 := h1.cell 0
    have k2 := h2.drew.cell 0
    have k3 := h3.cell 0
    simp only [List.getElem?_toArray, List.getElem?_cons_zero] at k1 k2 k3
    rw [← hvS.out] at k1
    have hxi : (xs.length : Int) ≤ 140737488351232 := by omega
    clear hsn
    by_cases hk : pre.length < xs.length
    · have hki : ((pre.length : Nat) : Int) < (xs.length : Int) := by omega
      obtain ⟨wy, hwx⟩ : ∃ wy, xs[pre.length]? = some wy := ⟨_, List.getElem?_eq_getElem hk⟩
      obtain ⟨hwy, b, off, hao, hbl, hbc⟩ := hbyW pre.length wy hwx
      rw [hao] at k1
      have hadd : (⟨b, off, none⟩ : Addr).add pre.length = ⟨b, off + pre.length, none⟩ := by by_cases h : pre.length = 0 <;> simp [Addr.add, h]
      have hwyi : (wy : Int) < 256 := by omega
      clear hwx hbyW hao
      have hspell := hid (fun wz => spelled_calls cc hcv wy hwy wz)
      gi_wp2_with fail
      refine wpIn_region_round (S := fun _ => True) (by kernel_rfl) (by kernel_rfl) (fun _ _ h => h) trivial (fun hHeld => ?_)
      (refine' wpAnyH_take (i := 1) rfl (by kernel_rfl) (by kernel_rfl) (by kernel_rfl) (fun _ _ _ h => h) (Or.inl ⟨by rfl, ?_⟩) (by assumption) ?_; rotate_left; (· (intro wq hq; (try dsimp only at hq); go_simp; first | done | with_reducible rfl)); simp only [Act.put, List.getElem_toArray, List.getElem_cons_zero, List.getElem_cons_succ, List.setIfInBounds_toArray, List.set_cons_zero, List.set_cons_succ])
      (refine' wpAnyH_take (i := 2) rfl (by kernel_rfl) (by kernel_rfl) (by kernel_rfl) (fun _ _ _ h => h) (Or.inl ⟨by rfl, ?_⟩) (by assumption) ?_; rotate_left; (· (intro wq hq; (try dsimp only at hq); go_simp; first | done | with_reducible rfl)); simp only [Act.put, List.getElem_toArray, List.getElem_cons_zero, List.getElem_cons_succ, List.setIfInBounds_toArray, List.set_cons_zero, List.set_cons_succ])
      refine wpAnyH_ready (rs := [0, 3]) (by kernel_rfl) (by simp) ?_
      refine AllReadyH.cons rfl (fun K hK => ?_) ?_
      · go_simp
        refine hK.out _ _ trivial (fun hH => ?_)
        clear hK K
        refine wpAnyH_ready (rs := [3]) (by kernel_rfl) (by simp) ?_
        refine AllReadyH.cons rfl (fun K hK => ?_) ?_
        · rw [if_pos (by rfl)]
          go_simp
          refine (hspell.out _).mono ?_
          rintro e wf ⟨⟨t, rfl, ht⟩, hb⟩
          have ht' := hid ht
          have hts : t.size ≤ 24 := by have h := ht.1; rw [byts_length] at h; have := sizeN_le cc; omega
          have hcat : (9223372036854775807 < R.size + t.size) = False := by apply eq_false; omega
          have k2f : wf.cell? ⟨A, 0, none⟩ = some (.string R) := (hb.cell (p := ⟨A, 0, none⟩) h2.drew.lt).trans (h2.drew.cell 0)
          have f2f : wf.frozen? ⟨A, 0, none⟩ = false := (hb.frozen (p := ⟨A, 0, none⟩) h2.drew.lt).trans (h2.drew.frozen 0)
          clear ht
          refine hK.out _ _ trivial (fun hH => ?_)
          clear hK K
          (refine' wpAnyH_take (i := 4) rfl (by kernel_rfl) (by kernel_rfl) (by kernel_rfl) (fun _ _ _ h => h) (Or.inl ⟨by rfl, ?_⟩) (by assumption) ?_; rotate_left; (· (intro wq hq; (try dsimp only at hq); go_simp; first | done | with_reducible rfl)); simp only [Act.put, List.getElem_toArray, List.getElem_cons_zero, List.getElem_cons_succ, List.setIfInBounds_toArray, List.set_cons_zero, List.set_cons_succ])
          refine wpAnyH_ready (rs := [5]) (by kernel_rfl) (by simp) ?_
          refine AllReadyH.cons rfl (fun K hK => ?_) ?_
          · go_simp
            refine hK.out _ _ trivial (fun hH => ?_)
            clear hK K
            refine wpAnyH_done (by kernel_rfl) ?_ _
            first
              | (rename_i Kz hKz _t1 _t3; refine hKz _ _ ?_)
              | (rename_i Kz hKz _t1 _t2 _t3; refine hKz _ _ ?_)
              | (rename_i Kz hKz _t0 _t1 _t2 _t3; refine hKz _ _ ?_)
            have hend := sp_round (W := W) (wf := wf) (A := A) (l := A + 1 + 1) (B := w3.heap.size + 1 + 1) (D := w3.heap.size) h1 h2 h3 hB hb hAw (by omega) rfl hsn'.out hR'.out ht'.out
            have c9 := hend.1
            have f9 := hend.2.1
            have hend' := hid hend.2.2
            clear hend
            gi_wp2
            exact hend'.out
          · exact AllReadyH.nil
        · exact AllReadyH.nil
      · refine AllReadyH.cons rfl (fun K hK => ?_) ?_
        · rw [if_pos (by rfl)]
          go_simp
          refine (hspell.out _).mono ?_
          rintro e wf ⟨⟨t, rfl, ht⟩, hb⟩
          have ht' := hid ht
          have hts : t.size ≤ 24 := by have h := ht.1; rw [byts_length] at h; have := sizeN_le cc; omega
          have hcat : (9223372036854775807 < R.size + t.size) = False := by apply eq_false; omega
          have k2f : wf.cell? ⟨A, 0, none⟩ = some (.string R) := (hb.cell (p := ⟨A, 0, none⟩) h2.drew.lt).trans (h2.drew.cell 0)
          have f2f : wf.frozen? ⟨A, 0, none⟩ = false := (hb.frozen (p := ⟨A, 0, none⟩) h2.drew.lt).trans (h2.drew.frozen 0)
          clear ht
          refine hK.out _ _ trivial (fun hH => ?_)
          clear hK K
          refine wpAnyH_ready (rs := [0]) (by kernel_rfl) (by simp) ?_
          refine AllReadyH.cons rfl (fun K hK => ?_) ?_
          · go_simp
            refine hK.out _ _ trivial (fun hH => ?_)
            clear hK K
            (refine' wpAnyH_take (i := 4) rfl (by kernel_rfl) (by kernel_rfl) (by kernel_rfl) (fun _ _ _ h => h) (Or.inl ⟨by rfl, ?_⟩) (by assumption) ?_; rotate_left; (· (intro wq hq; (try dsimp only at hq); go_simp; first | done | with_reducible rfl)); simp only [Act.put, List.getElem_toArray, List.getElem_cons_zero, List.getElem_cons_succ, List.setIfInBounds_toArray, List.set_cons_zero, List.set_cons_succ])
            refine wpAnyH_ready (rs := [5]) (by kernel_rfl) (by simp) ?_
            refine AllReadyH.cons rfl (fun K hK => ?_) ?_
            · go_simp
              refine hK.out _ _ trivial (fun hH => ?_)
              clear hK K
              refine wpAnyH_done (by kernel_rfl) ?_ _
              first
                | (rename_i Kz hKz _t1 _t3; refine hKz _ _ ?_)
                | (rename_i Kz hKz _t1 _t2 _t3; refine hKz _ _ ?_)
                | (rename_i Kz hKz _t0 _t1 _t2 _t3; refine hKz _ _ ?_)
              have hend := sp_round (W := W) (wf := wf) (A := A) (l := A + 1 + 1) (B := w3.heap.size + 1 + 1) (D := w3.heap.size) h1 h2 h3 hB hb hAw (by omega) rfl hsn'.out hR'.out ht'.out
              have c9 := hend.1
              have f9 := hend.2.1
              have hend' := hid hend.2.2
              clear hend
              gi_wp2
              exact hend'.out
            · exact AllReadyH.nil
          · exact AllReadyH.nil
        · exact AllReadyH.nil
    · have hki : ¬ ((pre.length : Nat) : Int) < (xs.length : Int) := by omega
      clear hbyW
      have hspell := hid (fun wz => spelled_calls cc hcv 0 (by decide) wz)
      gi_wp2_with fail
      refine wpIn_region_round (S := fun _ => True) (by kernel_rfl) (by kernel_rfl) (fun _ _ h => h) trivial (fun hHeld => ?_)
      (refine' wpAnyH_take (i := 1) rfl (by kernel_rfl) (by kernel_rfl) (by kernel_rfl) (fun _ _ _ h => h) (Or.inl ⟨by rfl, ?_⟩) (by assumption) ?_; rotate_left; (· (intro wq hq; (try dsimp only at hq); go_simp; first | done | with_reducible rfl)); simp only [Act.put, List.getElem_toArray, List.getElem_cons_zero, List.getElem_cons_succ, List.setIfInBounds_toArray, List.set_cons_zero, List.set_cons_succ])
      (refine' wpAnyH_take (i := 2) rfl (by kernel_rfl) (by kernel_rfl) (by kernel_rfl) (fun _ _ _ h => h) (Or.inl ⟨by rfl, ?_⟩) (by assumption) ?_; rotate_left; (· (intro wq hq; (try dsimp only at hq); go_simp; first | done | with_reducible rfl)); simp only [Act.put, List.getElem_toArray, List.getElem_cons_zero, List.getElem_cons_succ, List.setIfInBounds_toArray, List.set_cons_zero, List.set_cons_succ])
      refine wpAnyH_ready (rs := [0, 3]) (by kernel_rfl) (by simp) ?_
      refine AllReadyH.cons rfl (fun K hK => ?_) ?_
      · go_simp
        refine hK.out _ _ trivial (fun hH => ?_)
        clear hK K
        refine wpAnyH_ready (rs := [3]) (by kernel_rfl) (by simp) ?_
        refine AllReadyH.cons rfl (fun K hK => ?_) ?_
        · rw [if_pos (by rfl)]
          go_simp
          refine (hspell.out _).mono ?_
          rintro e wf ⟨⟨t, rfl, ht⟩, hb⟩
          have ht' := hid ht
          have hts : t.size ≤ 24 := by have h := ht.1; rw [byts_length] at h; have := sizeN_le cc; omega
          have hcat : (9223372036854775807 < R.size + t.size) = False := by apply eq_false; omega
          have k2f : wf.cell? ⟨A, 0, none⟩ = some (.string R) := (hb.cell (p := ⟨A, 0, none⟩) h2.drew.lt).trans (h2.drew.cell 0)
          have f2f : wf.frozen? ⟨A, 0, none⟩ = false := (hb.frozen (p := ⟨A, 0, none⟩) h2.drew.lt).trans (h2.drew.frozen 0)
          clear ht
          refine hK.out _ _ trivial (fun hH => ?_)
          clear hK K
          (refine' wpAnyH_take (i := 4) rfl (by kernel_rfl) (by kernel_rfl) (by kernel_rfl) (fun _ _ _ h => h) (Or.inl ⟨by rfl, ?_⟩) (by assumption) ?_; rotate_left; (· (intro wq hq; (try dsimp only at hq); go_simp; first | done | with_reducible rfl)); simp only [Act.put, List.getElem_toArray, List.getElem_cons_zero, List.getElem_cons_succ, List.setIfInBounds_toArray, List.set_cons_zero, List.set_cons_succ])
          refine wpAnyH_ready (rs := [5]) (by kernel_rfl) (by simp) ?_
          refine AllReadyH.cons rfl (fun K hK => ?_) ?_
          · go_simp
            refine hK.out _ _ trivial (fun hH => ?_)
            clear hK K
            refine wpAnyH_done (by kernel_rfl) ?_ _
            first
              | (rename_i Kz hKz _t1 _t3; refine hKz _ _ ?_)
              | (rename_i Kz hKz _t1 _t2 _t3; refine hKz _ _ ?_)
              | (rename_i Kz hKz _t0 _t1 _t2 _t3; refine hKz _ _ ?_)
            have hend := sp_round (W := W) (wf := wf) (A := A) (l := A + 1 + 1) (B := w3.heap.size + 1 + 1) (D := w3.heap.size) h1 h2 h3 hB hb hAw (by omega) rfl hsn'.out hR'.out ht'.out
            have c9 := hend.1
            have f9 := hend.2.1
            have hend' := hid hend.2.2
            clear hend
            gi_wp2
            exact hend'.out
          · exact AllReadyH.nil
        · exact AllReadyH.nil
      · refine AllReadyH.cons rfl (fun K hK => ?_) ?_
        · rw [if_pos (by rfl)]
          go_simp
          refine (hspell.out _).mono ?_
          rintro e wf ⟨⟨t, rfl, ht⟩, hb⟩
          have ht' := hid ht
          have hts : t.size ≤ 24 := by have h := ht.1; rw [byts_length] at h; have := sizeN_le cc; omega
          have hcat : (9223372036854775807 < R.size + t.size) = False := by apply eq_false; omega
          have k2f : wf.cell? ⟨A, 0, none⟩ = some (.string R) := (hb.cell (p := ⟨A, 0, none⟩) h2.drew.lt).trans (h2.drew.cell 0)
          have f2f : wf.frozen? ⟨A, 0, none⟩ = false := (hb.frozen (p := ⟨A, 0, none⟩) h2.drew.lt).trans (h2.drew.frozen 0)
          clear ht
          refine hK.out _ _ trivial (fun hH => ?_)
          clear hK K
          refine wpAnyH_ready (rs := [0]) (by kernel_rfl) (by simp) ?_
          refine AllReadyH.cons rfl (fun K hK => ?_) ?_
          · go_simp
            refine hK.out _ _ trivial (fun hH => ?_)
            clear hK K
            (refine' wpAnyH_take (i := 4) rfl (by kernel_rfl) (by kernel_rfl) (by kernel_rfl) (fun _ _ _ h => h) (Or.inl ⟨by rfl, ?_⟩) (by assumption) ?_; rotate_left; (· (intro wq hq; (try dsimp only at hq); go_simp; first | done | with_reducible rfl)); simp only [Act.put, List.getElem_toArray, List.getElem_cons_zero, List.getElem_cons_succ, List.setIfInBounds_toArray, List.set_cons_zero, List.set_cons_succ])
            refine wpAnyH_ready (rs := [5]) (by kernel_rfl) (by simp) ?_
            refine AllReadyH.cons rfl (fun K hK => ?_) ?_
            · go_simp
              refine hK.out _ _ trivial (fun hH => ?_)
              clear hK K
              refine wpAnyH_done (by kernel_rfl) ?_ _
              first
                | (rename_i Kz hKz _t1 _t3; refine hKz _ _ ?_)
                | (rename_i Kz hKz _t1 _t2 _t3; refine hKz _ _ ?_)
                | (rename_i Kz hKz _t0 _t1 _t2 _t3; refine hKz _ _ ?_)
              have hend := sp_round (W := W) (wf := wf) (A := A) (l := A + 1 + 1) (B := w3.heap.size + 1 + 1) (D := w3.heap.size) h1 h2 h3 hB hb hAw (by omega) rfl hsn'.out hR'.out ht'.out
              have c9 := hend.1
              have f9 := hend.2.1
              have hend' := hid hend.2.2
              clear hend
              gi_wp2
              exact hend'.out
            · exact AllReadyH.nil
          · exact AllReadyH.nil
        · exact AllReadyH.nil
  case done =>
    rintro D ys W hD rfl ⟨h1, ⟨R, h2, hR⟩, h3, hB⟩ hK
    have hFI : FI (telOf a0) (List.range (telOf a0).length) = byts a0 := by
      rw [FI_range _ _ (Nat.le_refl _), List.take_length, hG'.out.1, hb1'.out hbad.out, ← byts_length, List.take_length]
    obtain ⟨r1, r2, r3⟩ := hR
    rw [hFI] at r2 r3
    rw [byts_length] at r3
    have hun : Hid (unS R = (a0, 0)) := hid (by
      unfold unS
      rw [ok_bad r1, if_neg (by decide), r2]
      show (mkS (byts a0), (0 : Int)) = _
      rw [mkS_byts])
    rw [List.length_range] at h3
    have hK' := hid hK
    have hB' := hid hB
    have h3' := hid h3
    have k2 := h2.cell 0
    simp only [List.getElem?_toArray, List.getElem?_cons_zero] at k2
    have hTl2 := hTl.out
    obtain ⟨K, hKn⟩ : ∃ K, Hid ((telOf a0).length = K) := ⟨_, rfl⟩
    have hemp : Hid ((a0.size = 0 ∧ K = 0) ∨ (a0.size ≠ 0 ∧ 0 < K)) := hid (by
      rw [← hKn.out]
      by_cases e : a0.size = 0
      · exact .inl ⟨e, by omega⟩
      · refine .inr ⟨e, Nat.pos_of_ne_zero (fun e2 => e ?_)⟩
        have h := hFI
        rw [e2] at h
        rw [← byts_length, ← h]
        rfl)
    rw [hKn.out] at h3' hTl2
    clear h1 h2 h3 hB hK hFI r1 r2 q3 hsl
    go_wp2_with fail
    refine (un_big R (by omega) a0 h0 hun _ (h15'.out.below hB'.out)).mono ?_
    rintro e v1 ⟨rfl, hb⟩
    have h3v := h3'.out.keptAll hb
    have c3 := h3v.cell 0
    simp only [List.getElem?_toArray, List.getElem?_cons_zero] at c3
    have hBv := hid (hB'.out.trans (hb.mono hB'.out.size))
    have hKv := hid ((hb.block D (Array.getElem?_eq_some_iff.1 hK'.out).1).trans hK'.out)
    clear hb h3' hB' hK' h3v
    rcases hemp.out with ⟨e1, e2⟩ | ⟨e1, e2⟩
    · have e3 : a0 = ⟨#[]⟩ := by
        apply byts_inj
        exact List.eq_nil_of_length_eq_zero (by rw [byts_length]; exact e1)
      subst e2 e3
      go_wp2_with fail
      refine (awake15_calls _ (h15'.out.below hBv.out)).mono ?_
      rintro e v2 ⟨rfl, hb⟩
      have hBf := hid (hBv.out.trans (hb.mono hBv.out.size))
      have hKf := hid ((hb.block D (Array.getElem?_eq_some_iff.1 hKv.out).1).trans hKv.out)
      clear hb
      go_wp2
      refine ⟨by simp, .inl ⟨_, _, rfl, run_takeDeferred hKf.out, ?_⟩⟩
      refine ⟨.bool true, ?_, rfl, hBf.out.trans (belowK_b (w := w) (Nat.le_refl _) _ D _ _ (by omega) hKf.out rfl rfl)⟩
      simp [results, Try.f8, go_sem]
    · have e2i : (0 : Int) < (K : Int) := by omega
      have e3 : a0.toList ≠ [] := fun e => e1 (by
        have h : a0.data.toList = [] := by rw [← Lib.toList_data, e]
        rw [← byts_length, byts, h]
        rfl)
      have e4 : (a0.toList == []) = false := by rw [beq_eq_false_iff_ne]; exact e3
      have e5 : (a0.toList != []) = true := by rw [bne, e4]; rfl
      clear e3
      go_wp2_with fail
      refine (awake15_calls _ (h15'.out.below hBv.out)).mono ?_
      rintro e v2 ⟨rfl, hb⟩
      have hBf := hid (hBv.out.trans (hb.mono hBv.out.size))
      have hKf := hid ((hb.block D (Array.getElem?_eq_some_iff.1 hKv.out).1).trans hKv.out)
      clear hb
      go_wp2
      refine ⟨by simp, .inl ⟨_, _, rfl, run_takeDeferred hKf.out, ?_⟩⟩
      refine ⟨.bool true, ?_, rfl, hBf.out.trans (belowK_b (w := w) (Nat.le_refl _) _ D _ _ (by omega) hKf.out rfl rfl)⟩
      simp [results, Try.f8, go_sem]
theorem textsSpells_walk (a0 : ByteArray) (h0 : a0.size ≤ reachBytes) (ao : Option Addr) (cap : Nat) (xs : List Nat) (hxs : xs.length ≤ 140737488351232) (w : World) (hby : BytesOf w ao xs) (h15 : Ok15 w) :
    Calls Try.prog 8 #[.string a0, .slice ao xs.length cap] w fun e w' => e = .returned (.bool true) ∧ Below w.heap.size w w' := callsIn_wide.1 (spells_in a0 h0 ao cap xs hxs w hby h15)
end Go.Proofs.Ytlcihopklnnhdaa
