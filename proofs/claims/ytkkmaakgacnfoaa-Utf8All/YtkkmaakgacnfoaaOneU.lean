/-
  What quarrylaw05.one answers of any number: true.
-/
import Derived.Test.YtkkmaakgacnfoaaFormC
import Derived.Test.YtkkmaakgacnfoaaUtf8Size
import Derived.Test.YtkkmaakgacnfoaaUtf8Read
import Derived.Test.YtkkmaakgacnfoaaRunesSeq
import Derived.Laws.Concat
namespace Go.Proofs.Ytkkmaakgacnfoaa
open Go.RowKit Go.Shelf

attribute [local go_sem] Oper.semAt_some

set_option maxRecDepth 100000 in
set_option maxHeartbeats 4000000 in
theorem oneNo_calls (r : Int) (hz : sizeZ r = 0) (w : World) :
    Calls Try.prog 21 #[.int .i32 r] w fun e w' => e = .returned (.bool true) ∧ Below w.heap.size w w' := by
  have hsz := hid (fun w => size_calls r w)
  rw [hz] at hsz
  have hc : r < 0 ∨ (¬ r < 0 ∧ 1114111 < r) ∨ (¬ r < 0 ∧ ¬ 1114111 < r ∧ 55296 ≤ r ∧ r ≤ 57343) := by
    unfold sizeZ sizeN at hz
    split at hz
    · omega
    · split at hz
      · omega
      · split at hz
        · omega
        · split at hz
          · omega
          · split at hz <;> omega
  clear hz
  rcases hc with h1 | ⟨h1, h2⟩ | ⟨h1, h2, h3, h4⟩
  · go_enter Try.func21, Try.ntmps21
    go_wp2_with (first | (refine (hsz.out _).mono ?_; rintro e w1 ⟨rfl, hw1⟩; rw [hw1]; clear hw1))
    exact bodyPost_ret (v := .bool true) (by simp [results, Try.results21, go_sem]) rfl ⟨rfl, by repeat (first | with_reducible exact Below.refl _ _ | with_reducible refine Below.setCell ?_ (by first | (simp; done) | (simp; omega)) _ | with_reducible refine below_drewN ?_ _ | with_reducible refine Below.alloc ?_ (by first | (simp; done) | (simp; omega)) _ | with_reducible refine Below.drew ?_)⟩
  · go_enter Try.func21, Try.ntmps21
    go_wp2_with (first | (refine (hsz.out _).mono ?_; rintro e w1 ⟨rfl, hw1⟩; rw [hw1]; clear hw1))
    exact bodyPost_ret (v := .bool true) (by simp [results, Try.results21, go_sem]) rfl ⟨rfl, by repeat (first | with_reducible exact Below.refl _ _ | with_reducible refine Below.setCell ?_ (by first | (simp; done) | (simp; omega)) _ | with_reducible refine below_drewN ?_ _ | with_reducible refine Below.alloc ?_ (by first | (simp; done) | (simp; omega)) _ | with_reducible refine Below.drew ?_)⟩
  · go_enter Try.func21, Try.ntmps21
    go_wp2_with (first | (refine (hsz.out _).mono ?_; rintro e w1 ⟨rfl, hw1⟩; rw [hw1]; clear hw1))
    exact bodyPost_ret (v := .bool true) (by simp [results, Try.results21, go_sem]) rfl ⟨rfl, by repeat (first | with_reducible exact Below.refl _ _ | with_reducible refine Below.setCell ?_ (by first | (simp; done) | (simp; omega)) _ | with_reducible refine below_drewN ?_ _ | with_reducible refine Below.alloc ?_ (by first | (simp; done) | (simp; omega)) _ | with_reducible refine Below.drew ?_)⟩

theorem undef_bool6 {b : Bool} (h : some undef = some (Value.bool b)) : False := by first | (cases h; done) | (simp [undef] at h)
theorem mark5 {W W' : World} {D : Nat} {o : Obj} (h : W.heap[D]? = some o) (hb : Below W.heap.size W W') : W'.heap[D]? = some o := (hb.block D (Array.getElem?_eq_some_iff.1 h).1).trans h
/-- Ahead of the rounds: the number and what is answered. -/
def OneI2 (w : World) (c : Nat) (W : World) : Prop := At W w.heap.size #[.int .i32 (c : Int)] 21 ∧ At W (w.heap.size + 1) #[.bool false] 4 ∧ Below w.heap.size w W
theorem OneI2.kept {w W W' : World} {c : Nat} (h : OneI2 w c W) (hb : Below W.heap.size W W') : OneI2 w c W' := ⟨h.1.keptAll hb, h.2.1.keptAll hb, h.2.2.trans (hb.mono h.2.2.size)⟩
theorem one_start (w : World) (c : Nat) : OneI2 w c ((w.alloc (.cells #[.int .i32 (c : Int)] 21)).alloc (.cells #[.bool false] 4)) := by
  refine ⟨(At.new w _ _).alloc _, ?_, by repeat (first | with_reducible exact Below.refl _ _ | with_reducible refine Below.setCell ?_ (by first | (simp; done) | (simp; omega)) _ | with_reducible refine below_drewN ?_ _ | with_reducible refine Below.alloc ?_ (by first | (simp; done) | (simp; omega)) _ | with_reducible refine Below.drew ?_)⟩
  have h := At.new (w.alloc (.cells #[.int .i32 (c : Int)] 21)) #[.bool false] 4
  simpa using h

/-- Between two rounds, and behind them: the number, what is answered, how many were told. -/
def OneI (w : World) (c : Nat) (Z : Nat) (n : Nat) (W : World) : Prop := At W w.heap.size #[.int .i32 (c : Int)] 21 ∧ At W (w.heap.size + 1) #[.bool false] 4 ∧ At W Z #[.int .i64 (n : Int)] 3 ∧ Below w.heap.size w W
theorem OneI2.with_n {w W : World} {c : Nat} (h : OneI2 w c W) : OneI w c W.heap.size 0 (W.alloc (.cells #[.int .i64 0] 3)) := ⟨h.1.alloc _, h.2.1.alloc _, At.new _ _ _, h.2.2.alloc h.2.2.size _⟩
theorem OneI.kept {w W W' : World} {c Z n : Nat} (h : OneI w c Z n W) (hb : Below W.heap.size W W') : OneI w c Z n W' := ⟨h.1.keptAll hb, h.2.1.keptAll hb, h.2.2.1.keptAll hb, h.2.2.2.trans (hb.mono h.2.2.2.size)⟩
theorem OneI.free {w W W' : World} {c Z n B : Nat} (h : OneI w c Z n W) (hZ : Z < B) (hB : w.heap.size + 1 < B) {row : Option Nat} (hg : W.grownBy W' row) (hr : ∀ r, row = some r → B ≤ r) : OneI w c Z n W' :=
  ⟨h.1.free (B := B) (by omega) hg hr, h.2.1.free (B := B) hB hg hr, h.2.2.1.free (B := B) hZ hg hr, below_free (B := B) h.2.2.2 (by omega) (by have := h.1.lt; omega) hg hr⟩

set_option maxRecDepth 100000 in
set_option maxHeartbeats 8000000 in
theorem oneYes_in (c : Nat) (hc : sizeN c ≠ 0) (w : World) :
    CallsIn Fence.wide 3 Try.prog 21 #[.int .i32 (c : Int)] w fun e w' => e = .returned (.bool true) ∧ Below w.heap.size w w' := by
  have hnf : ∀ (f : Fn) (a b : Array Value) (w : World), Sem.run Try.prog (binOp BinOp.eql 36 (.func f a b) .nilFunc) w = .ok (.bool false) w := fun _ _ _ _ => by rfl
  have hc' := hid hc
  have hs := sizeN_iff c
  have hle := sizeN_le c
  have i1 : ¬ ((c : Int) < 0) := by omega
  have i2 : ¬ ((1114111 : Int) < (c : Int)) := by omega
  have i3 : ¬ ((55296 : Int) ≤ (c : Int)) ∨ ((55296 : Int) ≤ (c : Int) ∧ ¬ ((c : Int) ≤ 57343)) := by omega
  have hsz := hid (size_calls (c : Int))
  have hszc : sizeZ (c : Int) = sizeN c := by unfold sizeZ; rw [if_neg (by omega)]; rfl
  rw [hszc] at hsz
  obtain ⟨F, hF⟩ : ∃ F, F = mkS (formL c) := ⟨_, rfl⟩
  have hfc := hid (fun w => formc_calls hc w)
  rw [← hF] at hfc
  obtain ⟨n, hn⟩ : ∃ n, n = sizeN c := ⟨_, rfl⟩
  have hFs : F.size = n := by rw [hF, mkS_size, formL_len, hn]
  have hFb := hid (show byts F = formL c by rw [hF]; exact byts_mkS (formL_lt c))
  have hbad : badOf F = -1 := by unfold badOf; rw [hFb.out]; exact bad_form c
  have htel := hid (show telOf F = [(0, c)] by rw [hF]; exact tel_form hc)
  rw [← hn] at hsz
  have hn4 : n ≤ 4 := by omega
  have hn' := hid hn
  have hFs' := hid hFs
  have hbad' := hid hbad
  clear hF hs hle hszc hn hc hFs hbad
  refine callsIn_of_wp_marks Try.func21 rfl trivial ?_ rfl
  simp only [Try.ntmps21, List.size_toArray, List.length_cons, List.length_nil, Nat.reduceAdd, Nat.reduceSub, Array.replicate_succ, Array.replicate_zero, List.push_toArray, List.append_toArray, List.nil_append, List.cons_append]
  refine wpIn_wide.2 ?_
  have q0 : OneI2 w c ((w.alloc (.cells #[.int .i32 (c : Int)] 21)).alloc (.cells #[.bool false] 4)) := one_start w c
  have q0' := hid q0
  clear q0
  rcases i3 with i3 | ⟨i3, i4⟩
  · go_wp2_with fail
    refine (hfc.out _).mono ?_
    rintro e w1 ⟨rfl, hb1⟩
    have q1 := hid (q0'.out.kept hb1)
    clear hb1 q0'
    have k1 := q1.out.1.cell 0
    simp only [List.getElem?_toArray, List.getElem?_cons_zero] at k1
    go_wp2_with fail
    refine (hsz.out _).mono ?_
    rintro e w2 ⟨rfl, hw2⟩
    rw [hw2]
    clear hw2
    have hFs := hFs'.out
    go_wp2_with fail
    refine (badF_calls F (by rw [hFs]; omega) _).mono ?_
    rintro e w2 ⟨rfl, hb2⟩
    rw [hbad'.out]
    have q2 := hid (q1.out.kept hb2)
    clear hb2 q1 k1
    go_wp2_with fail
    refine (runes_calls F _).mono ?_
    rintro e w3 ⟨rfl, hw3⟩
    obtain ⟨Z, hZ⟩ : ∃ Z, w2.heap.size = Z := ⟨_, rfl⟩
    have q3 : OneI w c Z 0 w3 := by
      rw [hw3, ← hZ]
      exact (q2.out.with_n).kept ((Below.refl _ _).alloc (Nat.le_refl _) _)
    have hsl : At w3 (Z + 1) #[.string F] 9 := by
      have h := At.new (w2.alloc (.cells #[.int .i64 0] 3)) #[.string F] 9
      rw [hw3, ← hZ]
      simpa using h
    have hz3 : w3.heap.size = Z + 1 + 1 := by rw [hw3, ← hZ]; simp
    have hZw : w.heap.size + 1 < Z := by rw [← hZ]; exact q2.out.2.1.lt
    have hsz3 : (w2.alloc (.cells #[.int .i64 0] 3)).heap.size = Z + 1 := by rw [← hZ]; simp
    rw [hsz3, hZ]
    clear hw3 q2 hsz3 hZ hsz hfc
    go_wp2_with fail
    refine (wpIn_wide (n := 3)).1 ?_
    refine range_free (n := 3) (by decide) (gf := 25) (lb := #[.pointer (some ⟨Z + 1, 0, none⟩)]) rfl (enters_of Try.func25 (by kernel_rfl) rfl)
      (runes_free (3 - 1) (Z + 1) w.heap.size (w3.heap.size + 1 + 1) F (by rw [hFs]; omega) w3 (Nat.le_refl _) hsl) (Below.refl _ _) (fun _ => rfl) Held.trans (fun W r r' h => Held.turn h (by omega) (by omega) (by omega))
      (fun pre W => OneI w c Z pre.length W) (fun co pre W => co = .ret ∧ ¬ ∃ k, k ≤ (telOf F).length ∧ pre = List.range k)
      (fun _ X Y row h hg hr => h.free (B := w3.heap.size) (by omega) (by omega) hg hr) (fun _ _ X Y row h hg hr => h) q3
      (fun x => { tmps := #[.int .i32 (c : Int), .pointer (some ⟨w.heap.size, 0, none⟩), .pointer (some ⟨w.heap.size + 1, 0, none⟩), .string F, .pointer (some ⟨Z, 0, none⟩), .func (.func 25) #[] #[.pointer (some ⟨Z + 1, 0, none⟩)], .int .i64 ((((telOf F).getD x (0, 0)).1 : Nat) : Int), .int .i32 ((((telOf F).getD x (0, 0)).2 : Nat) : Int), undef, .int .i32 (c : Int), .bool false, .bool false, .int .i32 (c : Int), .bool false, .bool false, .bool false, .int .i32 (c : Int), .bool false, .bool false, undef, undef, .bool false, .bool false, undef, undef, undef, .int .i32 (c : Int), .string F, .int .i32 (c : Int), .int .i64 (n : Int), .string F, .int .i64 (n : Int), .bool false, .bool false, .string F, .int .i64 (-1), .bool false, .bool false, .string F, .func (.func 25) #[] #[.pointer (some ⟨Z + 1, 0, none⟩)], .func (.func 25) #[] #[.pointer (some ⟨Z + 1, 0, none⟩)], .bool false, .func (.func 25) #[] #[.pointer (some ⟨Z + 1, 0, none⟩)], .int .i64 ((((telOf F).getD x (0, 0)).1 : Nat) : Int), .int .i32 ((((telOf F).getD x (0, 0)).2 : Nat) : Int), undef, undef, undef, undef, undef, undef, undef, undef, undef, undef, undef, undef, undef, undef, undef, undef, undef, undef, undef, undef, undef, undef, undef, undef, undef, undef, undef, undef, undef, undef, undef, undef, undef, undef, undef, undef, undef, undef, undef, undef, undef, undef], defers := [] })
      ?assign ?body ?done ?stop
    case assign =>
      intro l x W K hK
      rw [encU]
      generalize ((telOf F).getD x (0, 0)).1 = p at *
      generalize ((telOf F).getD x (0, 0)).2 = cc at *
      gi_wp2
      exact hK
    case body =>
      intro l pre x W hll hI hlt
      rw [htel.out] at hlt
      obtain rfl : pre = [] := by simpa using hlt
      obtain ⟨h1, h2, h3, hB⟩ := hI
      have hne := hid (show (telOf F).getD x (0, 0) ≠ (0, c) → ¬ ∃ k, k ≤ (telOf F).length ∧ [] ++ [x] = List.range k from fun hk ⟨k, _, hr⟩ => by
        have hkl := congrArg List.length hr
        simp at hkl
        subst hkl
        simp at hr
        subst hr
        rw [htel.out] at hk
        exact hk rfl)
      obtain ⟨⟨p, cc⟩, hpc⟩ : ∃ y, (telOf F).getD x (0, 0) = y := ⟨_, rfl⟩
      rw [hpc] at hne
      simp only [hpc]
      clear hpc hlt
      have k1 := h1.cell 0
      have k2 := h2.cell 0
      have k3 := h3.cell 0
      have f2 := h2.frozen 0
      have f3 := h3.frozen 0
      simp only [List.getElem?_toArray, List.getElem?_cons_zero] at k1 k2 k3
      by_cases hp : p = 0
      · subst hp
        by_cases hcc : cc = c
        · subst hcc
          clear hne
          gi_wp2
          refine ⟨(KeepsOthers.setCell _ _ _).from _, Held.setCell (b := Z) _ _ (by omega) (by omega) (by omega), h1.other (p := ⟨Z, 0, none⟩) (by show w.heap.size ≠ Z; omega) _, h2.other (p := ⟨Z, 0, none⟩) (by show w.heap.size + 1 ≠ Z; omega) _, ?_, hB.setCell (p := ⟨Z, 0, none⟩) (by show w.heap.size ≤ Z; omega) _⟩
          simpa using h3.set 0 (.int .i64 1)
        · have hout := hid (hne.out (fun k => hcc (by cases k; rfl)))
          have hc2 : ((cc : Int) != (c : Int)) = true := by simp; omega
          clear hne
          gi_wp2
          all_goals (try (exfalso; exact undef_bool6 (by assumption)))
          exact ⟨(KeepsOthers.setCell _ _ _).from _, Held.setCell (b := w.heap.size + 1) _ _ (by omega) (by omega) (by omega), rfl, hout.out⟩
      · have hout := hid (hne.out (fun k => hp (by cases k; rfl)))
        have hp2 : ((p : Int) != 0) = true := by simp; omega
        clear hne
        gi_wp2
        all_goals (try (exfalso; exact undef_bool6 (by assumption)))
        exact ⟨(KeepsOthers.setCell _ _ _).from _, Held.setCell (b := w.heap.size + 1) _ _ (by omega) (by omega) (by omega), rfl, hout.out⟩
    case stop =>
      rintro D co pre W hD hpre ⟨-, h⟩ hK
      exact absurd hpre h
    case done =>
      rintro D xs W hD rfl hI hK
      rw [htel.out] at hI
      have hI' := hid (show OneI w c Z 1 W from hI)
      have hK' := hid hK
      clear hI hK q3 hsl
      go_wp2
      go_loopw [8] (fun kk wr => ∃ k : Nat, 1 ≤ k ∧ k ≤ n ∧ kk = .int .i64 (k : Int) ∧ Hid (OneI w c Z 1 wr) ∧ Hid (wr.heap[D]? = some (.deferred (some [])))) (fun kk _ => n - (intOf kk).toNat)
      case atStart => exact ⟨1, Nat.le_refl _, by have := hn'.out; have := hc'.out; omega, rfl, hI', hK'⟩
      case round =>
        clear hI' hK'
        obtain ⟨k, hk1, hkn, rfl, hI, hK⟩ := hrel
        by_cases hlt : k < n
        · have hki : (k : Int) < (n : Int) := by omega
          have hkle : (k : Int) ≤ (n : Int) := by omega
          obtain ⟨b1, b2, b3⟩ := bad_part hc'.out (k := k) (by omega) (by rw [← hn'.out]; exact hlt)
          obtain ⟨E, hE⟩ : ∃ E : ByteArray, F.extract 0 k = E := ⟨_, rfl⟩
          have hEb : byts E = (formL c).take k := by rw [← hE, byts_extract, hFb.out]; rfl
          have hEs : E.size = k := by rw [← byts_length, hEb, List.length_take, formL_len, ← hn'.out]; omega
          have e1 := hid (show badOf E = (k : Int) by unfold badOf; rw [hEb]; exact b1)
          have e2 := hid (show badOf (E ++ ⟨#[97]⟩) = (k : Int) by unfold badOf; rw [byts_append, hEb]; exact b2)
          have e3 := hid (show badOf (E ++ F) = (k : Int) by unfold badOf; rw [byts_append, hEb, hFb.out]; exact b3)
          have hz1 : E.size + (ByteArray.mk #[97]).size ≤ 9223372036854775807 := by rw [hEs]; show k + 1 ≤ _; omega
          have hz2 : E.size + F.size ≤ 9223372036854775807 := by rw [hEs, hFs]; omega
          have y1 := hid (show E.size < 9223372036854775807 by omega)
          have y2 := hid (show (E ++ ⟨#[97]⟩).size < 9223372036854775807 by rw [ByteArray.size_append, hEs]; show k + 1 < _; omega)
          have y3 := hid (show (E ++ F).size < 9223372036854775807 by rw [ByteArray.size_append, hEs, hFs]; omega)
          obtain ⟨EA, hEA⟩ : ∃ EA, E ++ (ByteArray.mk #[97]) = EA := ⟨_, rfl⟩
          obtain ⟨EF, hEF⟩ : ∃ EF, E ++ F = EF := ⟨_, rfl⟩
          rw [hEA] at e2 y2
          rw [hEF] at e3 y3
          clear b1 b2 b3 hEb hEs hlt
          go_wp2_with fail
          refine (badF_calls E y1.out _).mono ?_
          rintro e v1 ⟨rfl, hb⟩
          rw [e1.out]
          have hI1 := hid (hI.out.kept hb)
          have hK1 := hid (mark5 hK.out hb)
          clear hb hI hK
          go_wp2_with fail
          refine (badF_calls EA y2.out _).mono ?_
          rintro e v2 ⟨rfl, hb⟩
          rw [e2.out]
          have hI2 := hid (hI1.out.kept hb)
          have hK2 := hid (mark5 hK1.out hb)
          clear hb hI1 hK1
          go_wp2_with fail
          refine (badF_calls EF y3.out _).mono ?_
          rintro e v3 ⟨rfl, hb⟩
          rw [e3.out]
          have hI3 := hid (hI2.out.kept hb)
          have hK3 := hid (mark5 hK2.out hb)
          clear hb hI2 hK2
          go_wp2
          go_roundw
          case rel => exact ⟨k + 1, by omega, by omega, by simp, hI3, hK3⟩
          case measure => simp [intOf]; omega
        · obtain rfl : k = n := by omega
          obtain ⟨h1, h2, h3, hB⟩ := hI.out
          have c2 := h2.cell 0
          have c3 := h3.cell 0
          have f2 := h2.frozen 0
          simp only [List.getElem?_toArray, List.getElem?_cons_zero] at c2 c3
          have hB2 := hid (hB.setCell (p := ⟨w.heap.size + 1, 0, none⟩) (by show w.heap.size ≤ w.heap.size + 1; omega) (.bool true))
          have hK2 := hid (show (wr.setCell ⟨w.heap.size + 1, 0, none⟩ (.bool true)).heap[D]? = some (.deferred (some [])) from (Below.heap_setCell wr ⟨w.heap.size + 1, 0, none⟩ _ D (by show D ≠ w.heap.size + 1; omega)).trans hK.out)
          clear h1 h2 h3 hB
          go_wp2
          refine ⟨by simp, .inl ⟨_, _, rfl, run_takeDeferred hK2.out, ?_⟩⟩
          have hc5 := cell_kept (World.cell?_setCell_same' wr ⟨w.heap.size + 1, 0, none⟩ (.bool true) (by rw [c2]; rfl)) (grownBy_putObj' _ D (.deferred none)) (fun r e => by cases e; exact ⟨_, hK2.out, rfl⟩)
          refine ⟨.bool true, ?_, rfl, hB2.out.trans (belowK_b (w := w) (Nat.le_refl _) _ D _ _ (by omega) hK2.out rfl rfl)⟩
          simp [results, Try.f21, go_sem, hc5]
  · go_wp2_with fail
    refine (hfc.out _).mono ?_
    rintro e w1 ⟨rfl, hb1⟩
    have q1 := hid (q0'.out.kept hb1)
    clear hb1 q0'
    have k1 := q1.out.1.cell 0
    simp only [List.getElem?_toArray, List.getElem?_cons_zero] at k1
    go_wp2_with fail
    refine (hsz.out _).mono ?_
    rintro e w2 ⟨rfl, hw2⟩
    rw [hw2]
    clear hw2
    have hFs := hFs'.out
    go_wp2_with fail
    refine (badF_calls F (by rw [hFs]; omega) _).mono ?_
    rintro e w2 ⟨rfl, hb2⟩
    rw [hbad'.out]
    have q2 := hid (q1.out.kept hb2)
    clear hb2 q1 k1
    go_wp2_with fail
    refine (runes_calls F _).mono ?_
    rintro e w3 ⟨rfl, hw3⟩
    obtain ⟨Z, hZ⟩ : ∃ Z, w2.heap.size = Z := ⟨_, rfl⟩
    have q3 : OneI w c Z 0 w3 := by
      rw [hw3, ← hZ]
      exact (q2.out.with_n).kept ((Below.refl _ _).alloc (Nat.le_refl _) _)
    have hsl : At w3 (Z + 1) #[.string F] 9 := by
      have h := At.new (w2.alloc (.cells #[.int .i64 0] 3)) #[.string F] 9
      rw [hw3, ← hZ]
      simpa using h
    have hz3 : w3.heap.size = Z + 1 + 1 := by rw [hw3, ← hZ]; simp
    have hZw : w.heap.size + 1 < Z := by rw [← hZ]; exact q2.out.2.1.lt
    have hsz3 : (w2.alloc (.cells #[.int .i64 0] 3)).heap.size = Z + 1 := by rw [← hZ]; simp
    rw [hsz3, hZ]
    clear hw3 q2 hsz3 hZ hsz hfc
    go_wp2_with fail
    refine (wpIn_wide (n := 3)).1 ?_
    refine range_free (n := 3) (by decide) (gf := 25) (lb := #[.pointer (some ⟨Z + 1, 0, none⟩)]) rfl (enters_of Try.func25 (by kernel_rfl) rfl)
      (runes_free (3 - 1) (Z + 1) w.heap.size (w3.heap.size + 1 + 1) F (by rw [hFs]; omega) w3 (Nat.le_refl _) hsl) (Below.refl _ _) (fun _ => rfl) Held.trans (fun W r r' h => Held.turn h (by omega) (by omega) (by omega))
      (fun pre W => OneI w c Z pre.length W) (fun co pre W => co = .ret ∧ ¬ ∃ k, k ≤ (telOf F).length ∧ pre = List.range k)
      (fun _ X Y row h hg hr => h.free (B := w3.heap.size) (by omega) (by omega) hg hr) (fun _ _ X Y row h hg hr => h) q3
      (fun x => { tmps := #[.int .i32 (c : Int), .pointer (some ⟨w.heap.size, 0, none⟩), .pointer (some ⟨w.heap.size + 1, 0, none⟩), .string F, .pointer (some ⟨Z, 0, none⟩), .func (.func 25) #[] #[.pointer (some ⟨Z + 1, 0, none⟩)], .int .i64 ((((telOf F).getD x (0, 0)).1 : Nat) : Int), .int .i32 ((((telOf F).getD x (0, 0)).2 : Nat) : Int), undef, .int .i32 (c : Int), .bool false, .bool false, .int .i32 (c : Int), .bool false, .bool false, .bool false, .int .i32 (c : Int), .bool true, .bool true, .int .i32 (c : Int), .bool false, .bool false, .bool false, undef, undef, undef, .int .i32 (c : Int), .string F, .int .i32 (c : Int), .int .i64 (n : Int), .string F, .int .i64 (n : Int), .bool false, .bool false, .string F, .int .i64 (-1), .bool false, .bool false, .string F, .func (.func 25) #[] #[.pointer (some ⟨Z + 1, 0, none⟩)], .func (.func 25) #[] #[.pointer (some ⟨Z + 1, 0, none⟩)], .bool false, .func (.func 25) #[] #[.pointer (some ⟨Z + 1, 0, none⟩)], .int .i64 ((((telOf F).getD x (0, 0)).1 : Nat) : Int), .int .i32 ((((telOf F).getD x (0, 0)).2 : Nat) : Int), undef, undef, undef, undef, undef, undef, undef, undef, undef, undef, undef, undef, undef, undef, undef, undef, undef, undef, undef, undef, undef, undef, undef, undef, undef, undef, undef, undef, undef, undef, undef, undef, undef, undef, undef, undef, undef, undef, undef, undef, undef, undef], defers := [] })
      ?assign ?body ?done ?stop
    case assign =>
      intro l x W K hK
      rw [encU]
      generalize ((telOf F).getD x (0, 0)).1 = p at *
      generalize ((telOf F).getD x (0, 0)).2 = cc at *
      gi_wp2
      exact hK
    case body =>
      intro l pre x W hll hI hlt
      rw [htel.out] at hlt
      obtain rfl : pre = [] := by simpa using hlt
      obtain ⟨h1, h2, h3, hB⟩ := hI
      have hne := hid (show (telOf F).getD x (0, 0) ≠ (0, c) → ¬ ∃ k, k ≤ (telOf F).length ∧ [] ++ [x] = List.range k from fun hk ⟨k, _, hr⟩ => by
        have hkl := congrArg List.length hr
        simp at hkl
        subst hkl
        simp at hr
        subst hr
        rw [htel.out] at hk
        exact hk rfl)
      obtain ⟨⟨p, cc⟩, hpc⟩ : ∃ y, (telOf F).getD x (0, 0) = y := ⟨_, rfl⟩
      rw [hpc] at hne
      simp only [hpc]
      clear hpc hlt
      have k1 := h1.cell 0
      have k2 := h2.cell 0
      have k3 := h3.cell 0
      have f2 := h2.frozen 0
      have f3 := h3.frozen 0
      simp only [List.getElem?_toArray, List.getElem?_cons_zero] at k1 k2 k3
      by_cases hp : p = 0
      · subst hp
        by_cases hcc : cc = c
        · subst hcc
          clear hne
          gi_wp2
          refine ⟨(KeepsOthers.setCell _ _ _).from _, Held.setCell (b := Z) _ _ (by omega) (by omega) (by omega), h1.other (p := ⟨Z, 0, none⟩) (by show w.heap.size ≠ Z; omega) _, h2.other (p := ⟨Z, 0, none⟩) (by show w.heap.size + 1 ≠ Z; omega) _, ?_, hB.setCell (p := ⟨Z, 0, none⟩) (by show w.heap.size ≤ Z; omega) _⟩
          simpa using h3.set 0 (.int .i64 1)
        · have hout := hid (hne.out (fun k => hcc (by cases k; rfl)))
          have hc2 : ((cc : Int) != (c : Int)) = true := by simp; omega
          clear hne
          gi_wp2
          all_goals (try (exfalso; exact undef_bool6 (by assumption)))
          exact ⟨(KeepsOthers.setCell _ _ _).from _, Held.setCell (b := w.heap.size + 1) _ _ (by omega) (by omega) (by omega), rfl, hout.out⟩
      · have hout := hid (hne.out (fun k => hp (by cases k; rfl)))
        have hp2 : ((p : Int) != 0) = true := by simp; omega
        clear hne
        gi_wp2
        all_goals (try (exfalso; exact undef_bool6 (by assumption)))
        exact ⟨(KeepsOthers.setCell _ _ _).from _, Held.setCell (b := w.heap.size + 1) _ _ (by omega) (by omega) (by omega), rfl, hout.out⟩
    case stop =>
      rintro D co pre W hD hpre ⟨-, h⟩ hK
      exact absurd hpre h
    case done =>
      rintro D xs W hD rfl hI hK
      rw [htel.out] at hI
      have hI' := hid (show OneI w c Z 1 W from hI)
      have hK' := hid hK
      clear hI hK q3 hsl
      go_wp2
      go_loopw [8] (fun kk wr => ∃ k : Nat, 1 ≤ k ∧ k ≤ n ∧ kk = .int .i64 (k : Int) ∧ Hid (OneI w c Z 1 wr) ∧ Hid (wr.heap[D]? = some (.deferred (some [])))) (fun kk _ => n - (intOf kk).toNat)
      case atStart => exact ⟨1, Nat.le_refl _, by have := hn'.out; have := hc'.out; omega, rfl, hI', hK'⟩
      case round =>
        clear hI' hK'
        obtain ⟨k, hk1, hkn, rfl, hI, hK⟩ := hrel
        by_cases hlt : k < n
        · have hki : (k : Int) < (n : Int) := by omega
          have hkle : (k : Int) ≤ (n : Int) := by omega
          obtain ⟨b1, b2, b3⟩ := bad_part hc'.out (k := k) (by omega) (by rw [← hn'.out]; exact hlt)
          obtain ⟨E, hE⟩ : ∃ E : ByteArray, F.extract 0 k = E := ⟨_, rfl⟩
          have hEb : byts E = (formL c).take k := by rw [← hE, byts_extract, hFb.out]; rfl
          have hEs : E.size = k := by rw [← byts_length, hEb, List.length_take, formL_len, ← hn'.out]; omega
          have e1 := hid (show badOf E = (k : Int) by unfold badOf; rw [hEb]; exact b1)
          have e2 := hid (show badOf (E ++ ⟨#[97]⟩) = (k : Int) by unfold badOf; rw [byts_append, hEb]; exact b2)
          have e3 := hid (show badOf (E ++ F) = (k : Int) by unfold badOf; rw [byts_append, hEb, hFb.out]; exact b3)
          have hz1 : E.size + (ByteArray.mk #[97]).size ≤ 9223372036854775807 := by rw [hEs]; show k + 1 ≤ _; omega
          have hz2 : E.size + F.size ≤ 9223372036854775807 := by rw [hEs, hFs]; omega
          have y1 := hid (show E.size < 9223372036854775807 by omega)
          have y2 := hid (show (E ++ ⟨#[97]⟩).size < 9223372036854775807 by rw [ByteArray.size_append, hEs]; show k + 1 < _; omega)
          have y3 := hid (show (E ++ F).size < 9223372036854775807 by rw [ByteArray.size_append, hEs, hFs]; omega)
          obtain ⟨EA, hEA⟩ : ∃ EA, E ++ (ByteArray.mk #[97]) = EA := ⟨_, rfl⟩
          obtain ⟨EF, hEF⟩ : ∃ EF, E ++ F = EF := ⟨_, rfl⟩
          rw [hEA] at e2 y2
          rw [hEF] at e3 y3
          clear b1 b2 b3 hEb hEs hlt
          go_wp2_with fail
          refine (badF_calls E y1.out _).mono ?_
          rintro e v1 ⟨rfl, hb⟩
          rw [e1.out]
          have hI1 := hid (hI.out.kept hb)
          have hK1 := hid (mark5 hK.out hb)
          clear hb hI hK
          go_wp2_with fail
          refine (badF_calls EA y2.out _).mono ?_
          rintro e v2 ⟨rfl, hb⟩
          rw [e2.out]
          have hI2 := hid (hI1.out.kept hb)
          have hK2 := hid (mark5 hK1.out hb)
          clear hb hI1 hK1
          go_wp2_with fail
          refine (badF_calls EF y3.out _).mono ?_
          rintro e v3 ⟨rfl, hb⟩
          rw [e3.out]
          have hI3 := hid (hI2.out.kept hb)
          have hK3 := hid (mark5 hK2.out hb)
          clear hb hI2 hK2
          go_wp2
          go_roundw
          case rel => exact ⟨k + 1, by omega, by omega, by simp, hI3, hK3⟩
          case measure => simp [intOf]; omega
        · obtain rfl : k = n := by omega
          obtain ⟨h1, h2, h3, hB⟩ := hI.out
          have c2 := h2.cell 0
          have c3 := h3.cell 0
          have f2 := h2.frozen 0
          simp only [List.getElem?_toArray, List.getElem?_cons_zero] at c2 c3
          have hB2 := hid (hB.setCell (p := ⟨w.heap.size + 1, 0, none⟩) (by show w.heap.size ≤ w.heap.size + 1; omega) (.bool true))
          have hK2 := hid (show (wr.setCell ⟨w.heap.size + 1, 0, none⟩ (.bool true)).heap[D]? = some (.deferred (some [])) from (Below.heap_setCell wr ⟨w.heap.size + 1, 0, none⟩ _ D (by show D ≠ w.heap.size + 1; omega)).trans hK.out)
          clear h1 h2 h3 hB
          go_wp2
          refine ⟨by simp, .inl ⟨_, _, rfl, run_takeDeferred hK2.out, ?_⟩⟩
          have hc5 := cell_kept (World.cell?_setCell_same' wr ⟨w.heap.size + 1, 0, none⟩ (.bool true) (by rw [c2]; rfl)) (grownBy_putObj' _ D (.deferred none)) (fun r e => by cases e; exact ⟨_, hK2.out, rfl⟩)
          refine ⟨.bool true, ?_, rfl, hB2.out.trans (belowK_b (w := w) (Nat.le_refl _) _ D _ _ (by omega) hK2.out rfl rfl)⟩
          simp [results, Try.f21, go_sem, hc5]
theorem one_calls (r : Int) (w : World) : Calls Try.prog 21 #[.int .i32 r] w fun e w' => e = .returned (.bool true) ∧ Below w.heap.size w w' := by
  by_cases hz : sizeZ r = 0
  · exact oneNo_calls r hz w
  · have h0 : ¬ r < 0 := fun h => hz (by unfold sizeZ; rw [if_pos h])
    obtain ⟨c, rfl⟩ : ∃ c : Nat, r = (c : Int) := ⟨r.toNat, by omega⟩
    exact callsIn_wide.1 (oneYes_in c (by unfold sizeZ at hz; rw [if_neg h0] at hz; simpa using hz) w)
end Go.Proofs.Ytkkmaakgacnfoaa
