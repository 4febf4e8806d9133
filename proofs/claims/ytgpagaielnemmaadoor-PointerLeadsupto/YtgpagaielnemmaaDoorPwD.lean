/-
 Where the pointers lead that tree.Walk tells, where no name stands twice; a pointer behind another one.
-/
import Derived.Test.YtgpagaielnemmaaDoorPack2
import Derived.Test.YtgpagaielnemmaaDoorPtN
import Derived.Test.YtgpagaielnemmaaDoorPtL
namespace Go.Proofs.YtgpagaielnemmaaDoor
open Go.RowKit Go.Shelf
theorem lk_mkD {l : List UInt8} {i : Nat} {c : UInt8} (h : l[i]? = some c) : lk (mkL l) i = c.toNat := by
 obtain ⟨hi, e⟩ := List.getElem?_eq_some_iff.1 h
 have hs : i < (mkL l).size := by rw [mkL_size]; exact hi
 rw [lk_at _ _ hs, ← e]
 rfl
theorem plain_six {b : Bool} {r t : ByteArray} {ks : List ByteArray} {vs : List Vt} (h : plainV (.mk 6 b r t ks vs) = true) : ks.length = vs.length := by
 have h' : (allB ks && (!b && ((r.toList == []) && ((t.toList == []) && decide (ks.length = vs.length))))) = true := h
 simp only [Bool.and_eq_true, decide_eq_true_eq] at h'
 exact h'.2.2.2.2
theorem someT {α : Type} (x : α) : (some x).isSome = true := rfl
theorem plN_same {s t : ByteArray} : ∀ i, (∀ j, j < i → lk s j = lk t j) → plN s i = plN t i
 | 0, _ => rfl
 | i + 1, h => by rw [plN, plN, plN_same i (fun j hj => h j (by omega)), h i (by omega)]
theorem dgt (x : Nat) (h : x < 10) : (UInt8.ofNat (48 + x)).toNat = 48 + x := by
 rw [UInt8.toNat_ofNat']
 omega
theorem dec_digit : ∀ (u : Nat), ∀ c ∈ Lib.decDigits u, 48 ≤ c.toNat ∧ c.toNat ≤ 57
 | u, c, h => by
  rw [Lib.decDigits] at h
  split at h
  ·rename_i h10
   rw [List.mem_singleton] at h
   subst h
   rw [dgt u h10]
   omega
  ·rename_i h10
   rcases List.mem_append.1 h with h | h
   ·exact dec_digit (u / 10) c h
   ·rw [List.mem_singleton] at h
    subst h
    rw [dgt _ (by omega)]
    omega
termination_by u => u
decreasing_by omega
theorem dec_val (u : Nat) : plN (mkL (Lib.decDigits u)) (Lib.decDigits u).length = u := by
  rw [Lib.decDigits]
  split
  ·rename_i h10
   show plN _ 0 * 10 + (lk (mkL [UInt8.ofNat (48 + u)]) 0 - 48) = u
   rw [lk_mkD (c := UInt8.ofNat (48 + u)) rfl, dgt u h10, plN]
   omega
  ·rename_i h10
   rw [List.length_append, List.length_singleton]
   show plN _ _ * 10 + (lk _ _ - 48) = u
   rw [lk_mkD (c := UInt8.ofNat (48 + u % 10)) (by rw [List.getElem?_append_right (Nat.le_refl _)]; simp), dgt _ (by omega),
    plN_same (t := mkL (Lib.decDigits (u / 10))) _ (fun j hj => by
     obtain ⟨c, hc⟩ : ∃ c, (Lib.decDigits (u / 10))[j]? = some c := ⟨_, List.getElem?_eq_getElem hj⟩
     rw [lk_mkD hc, lk_mkD (c := c) (by rw [List.getElem?_append_left hj]; exact hc)]), dec_val (u / 10)]
   omega
termination_by u
decreasing_by omega
theorem dec_head : ∀ (u : Nat), 0 < u → ∃ c, (Lib.decDigits u)[0]? = some c ∧ c.toNat ≠ 48
 | u, h => by
  rw [Lib.decDigits]
  split
  ·rename_i h10
   exact ⟨_, rfl, by rw [dgt u h10]; omega⟩
  ·rename_i h10
   obtain ⟨c, hc, h48⟩ := dec_head (u / 10) (by omega)
   exact ⟨c, by rw [List.getElem?_append_left (List.getElem?_eq_some_iff.1 hc).1]; exact hc, h48⟩
termination_by u => u
decreasing_by omega
theorem dec_len : ∀ (k u : Nat), u < 10 ^ (k + 1) → (Lib.decDigits u).length ≤ k + 1
 | 0, u, h => by rw [Lib.decDigits, dif_pos (by simpa using h)]; simp
 | k + 1, u, h => by
  rw [Lib.decDigits]
  split
  ·simp
  ·have := dec_len k (u / 10) (by rw [Nat.pow_succ] at h; omega)
   rw [List.length_append, List.length_singleton]
   omega
theorem dec_one (u : Nat) : 1 ≤ (Lib.decDigits u).length := by
 rw [Lib.decDigits]
 split <;> simp
theorem itoa_nat (i : Nat) : Lib.itoa (i : Int) = Lib.decDigits i := by
 unfold Lib.itoa
 rw [if_neg (by omega), Int.toNat_natCast]
theorem itoa_place {i : Nat} (h : i < 1000000000000000000) : plB (mkL (Lib.itoa (i : Int))) = true ∧ plN (mkL (Lib.itoa (i : Int))) (mkL (Lib.itoa (i : Int))).size = i := by
 rw [itoa_nat, mkL_size]
 refine ⟨?_, dec_val i⟩
 have hl := dec_len 17 i (by have : (10 : Nat) ^ (17 + 1) = 1000000000000000000 := (by decide); omega)
 unfold plB
 rw [Bool.and_eq_true, decide_eq_true_eq, decide_eq_true_eq, mkL_size]
 refine ⟨⟨dec_one i, hl, fun h0 => ?_⟩, fun j hj => ?_⟩
 ·by_cases hi : 0 < i
  ·obtain ⟨c, hc, h48⟩ := dec_head i hi
   rw [lk_mkD hc] at h0
   exact absurd h0 h48
  ·obtain rfl : i = 0 := by omega
   rw [Lib.decDigits, dif_pos (by decide)]
   rfl
 ·obtain ⟨c, hc⟩ : ∃ c, (Lib.decDigits i)[j]? = some c := ⟨_, List.getElem?_eq_getElem hj⟩
  rw [lk_mkD hc]
  exact dec_digit i c (List.mem_of_getElem? hc)
theorem wrN_plain : ∀ a : List UInt8, (∀ c ∈ a, c ≠ 126 ∧ c ≠ 47) → wrN a = a
 | [], _ => by rw [wrN]
 | c :: a, h => by
  have hc := h c (List.mem_cons_self ..)
  have ih := wrN_plain a (fun d hd => h d (List.mem_cons_of_mem _ hd))
  rw [wrN, ih]
  simp [hc.1, hc.2]
theorem itoa_wr (i : Nat) : wrN (Lib.itoa (i : Int)) = Lib.itoa (i : Int) := by
 refine wrN_plain _ (fun c hc => ?_)
 rw [itoa_nat] at hc
 have := dec_digit i c hc
 constructor
 ·rintro rfl
  have e : (126 : UInt8).toNat = 126 := rfl
  omega
 ·rintro rfl
  have e : (47 : UInt8).toNat = 47 := rfl
  omega
/-- No name stands twice. -/
def NoD (ks : List ByteArray) : Prop := ∀ (i j : Nat) (s : ByteArray), j < i → ks[i]? = some s → ks[j]? ≠ some s
mutual
def noTw : Vt → Prop
 | .mk _ _ _ _ ks vs => NoD ks ∧ noTwL vs
def noTwL : List Vt → Prop
 | [] => True
 | v :: vs => noTw v ∧ noTwL vs
end
theorem noTwL_get : ∀ {vs : List Vt} {i : Nat} {u : Vt}, noTwL vs → vs[i]? = some u → noTw u
 | [], i, u, _, h => by simp at h
 | v :: vs, i, u, hs, h => by
  unfold noTwL at hs
  cases i with
  | zero => simp at h; subst h; exact hs.1
  | succ i => exact noTwL_get hs.2 (by simpa using h)
theorem noTwL_all : ∀ {vs : List Vt}, (∀ (i : Nat) (u : Vt), vs[i]? = some u → noTw u) → noTwL vs
 | [], _ => by unfold noTwL; trivial
 | v :: vs, h => by
  unfold noTwL
  exact ⟨h 0 v rfl, noTwL_all (fun i u hu => h (i + 1) u (by simpa using hu))⟩
theorem prL_mem {p : List UInt8} {k : Int} {ks : List ByteArray} {x : List UInt8 × Vt} : ∀ (vs : List Vt) (j : Nat), x ∈ prL p k ks j vs → ∃ (i : Nat) (u : Vt), vs[i]? = some u ∧ x ∈ prV (p ++ [47] ++ stpK k ks (j + i)) u
 | [], j, h => by simp [prL] at h
 | v :: vs, j, h => by
  rw [prL] at h
  rcases List.mem_append.1 h with h | h
  ·exact ⟨0, v, rfl, h⟩
  ·obtain ⟨i, u, hu, hx⟩ := prL_mem vs (j + 1) h
   exact ⟨i + 1, u, by simpa using hu, by rw [show j + (i + 1) = j + 1 + i by omega]; exact hx⟩
theorem pr_leads : ∀ (n : Nat) (t : Vt), SizeOf.sizeOf t ≤ n → ∀ (l : Int), wfV t l = true → noTw t → lnV t → ∀ (p : List UInt8) (x : List UInt8 × Vt), x ∈ prV p t →
  ∃ L : List (List UInt8), x.1 = p ++ wrL L ∧ ldV t (L.map mkL) = some x.2
 | 0, t, hs, _, _, _, _, _, _, _ => by cases t; simp at hs
 | n + 1, .mk k b r tx ks vs, hs, l, hw, hn, hln, p, x, hx => by
  rw [prV] at hx
  rcases List.mem_cons.1 hx with rfl | hx
  ·exact ⟨[], by simp [wrL], ldV_nil _⟩
  ·obtain ⟨i, u, hu, hx⟩ := prL_mem vs 0 hx
   rw [Nat.zero_add] at hx
   obtain ⟨hpl, -, hwl⟩ := wf_parts hw
   have hi : i < vs.length := (List.getElem?_eq_some_iff.1 hu).1
   unfold noTw at hn
   unfold lnV at hln
   obtain ⟨L, hL, hld⟩ := pr_leads n u (by have := kid_size (k := k) (b := b) (r := r) (t := tx) (ks := ks) hu; omega) (l - 1) (wfL_at hwl hu) (noTwL_get hn.2 hu) (lnL_get hln.2.2 hu) _ x hx
   have key : ∃ nm : List UInt8, wrN nm = stpK k ks i ∧ stI (.mk k b r tx ks vs) (mkL nm) = some i := by
    by_cases h5 : k = 5
    ·subst h5
     refine ⟨Lib.itoa (i : Int), by rw [stpK, if_pos rfl, itoa_wr], ?_⟩
     obtain ⟨h1, h2⟩ := itoa_place (i := i) (by omega)
     show (if (5 : Int) = 5 then _ else _) = _
     rw [if_pos rfl, h2, if_pos ⟨h1, hi⟩]
    ·by_cases h6 : k = 6
     ·subst h6
      have hlen : ks.length = vs.length := plain_six hpl
      obtain ⟨s, hs⟩ : ∃ s, ks[i]? = some s := ⟨_, List.getElem?_eq_getElem (by rw [hlen]; exact hi)⟩
      refine ⟨s.data.toList, by rw [stpK, if_neg (by decide), hs]; rfl, ?_⟩
      show (if (6 : Int) = 5 then _ else if (6 : Int) = 6 then fstO (mkL s.data.toList) ks else none) = _
      rw [if_neg (by decide), if_pos rfl, mkL_data]
      exact fstO_yes hs (fun j hj => hn.1 i j s hj hs)
     ·have := plain_leaf hpl (by omega)
      subst this
      simp at hi
   obtain ⟨nm, h1, h2⟩ := key
   refine ⟨nm :: L, ?_, ?_⟩
   ·rw [hL, wrL, h1]
    simp
   ·rw [List.map_cons, ldV_yes h2 (show (Vt.mk k b r tx ks vs).kids[i]? = some u from hu)]
    exact hld
theorem fd_part {t : Vt} (hw : wfV t 1024 = true) (hn : noTw t) (hln : lnV t) {x : List UInt8 × Vt} (hx : x ∈ prV [] t) : fdF t x.1 = (x.2, true, 0) := by
 obtain ⟨L, h1, h2⟩ := pr_leads _ t (Nat.le_refl _) 1024 hw hn hln [] x hx
 rw [List.nil_append] at h1
 unfold fdF
 rw [if_pos hw, h1, ptrL_wr, if_pos (someT _)]
 have e : ptN (wrL L) = L := by unfold ptN; rw [ptrL_wr]; rfl
 rw [e, h2]
theorem ldV_app : ∀ (L M : List ByteArray) (t u : Vt), ldV t L = some u → ldV t (L ++ M) = ldV u M
 | [], M, t, u, h => by
  rw [ldV_nil] at h
  cases h
  rfl
 | nm :: L, M, t, u, h => by
  cases hs : stI t nm with
  | none => rw [ldV_no hs] at h; cases h
  | some i =>
   cases hk : t.kids[i]? with
   | none =>
    rw [ldV.eq_def] at h
    simp only [hs, hk] at h
    cases h
   | some v =>
    rw [ldV_yes hs hk] at h
    rw [List.cons_append, ldV_yes hs hk]
    exact ldV_app L M v u h
theorem ldV_wf : ∀ (L : List ByteArray) (t u : Vt) (l : Int), 0 ≤ l → wfV t l = true → ldV t L = some u → ∃ l', 0 ≤ l' ∧ l' ≤ l ∧ wfV u l' = true
 | [], t, u, l, h0, hw, h => by
  rw [ldV_nil] at h
  cases h
  exact ⟨l, h0, Int.le_refl _, hw⟩
 | nm :: L, t, u, l, h0, hw, h => by
  cases hs : stI t nm with
  | none => rw [ldV_no hs] at h; cases h
  | some i =>
   obtain ⟨v, hv, hwv, h1⟩ := wf_go h0 hw hs
   rw [ldV_yes hs hv] at h
   obtain ⟨l', a, b, c⟩ := ldV_wf L v u (l - 1) h1 hwv h
   exact ⟨l', a, by omega, c⟩
/-- A pointer behind another one leads from where that leads. -/
theorem fd_behind {t x : Vt} {l m : List UInt8} (h : fdF t l = (x, true, 0)) : (fdF x m = (vt0, false, 200)) ∨ (∃ y B, fdF x m = (y, B, 0) ∧ fdF t (l ++ m) = (y, B, 0)) := by
 unfold fdF at h
 by_cases hw : wfV t 1024 = true
 ·rw [if_pos hw] at h
  cases hp : ptrL l with
  | none => rw [hp] at h; simp at h
  | some L =>
   have eL : ptN l = L := by unfold ptN; rw [hp]; rfl
   rw [hp, if_pos (someT _), eL] at h
   cases hd : ldV t (L.map mkL) with
   | none => rw [hd] at h; simp at h
   | some u =>
    rw [hd] at h
    have : u = x := (Prod.mk.injEq .. ▸ h : _ ∧ _).1
    subst this
    obtain ⟨l', h0, h1, hwu⟩ := ldV_wf _ _ _ 1024 (by decide) hw hd
    have hwx : wfV u 1024 = true := wf_up u l' 1024 h0 h1 hwu
    cases hq : ptrL m with
    | none =>
     left
     unfold fdF
     rw [if_pos hwx, hq]
     rfl
    | some M =>
     have eM : ptN m = M := by unfold ptN; rw [hq]; rfl
     have hlm := ptrL_app hp hq
     have eLM : ptN (l ++ m) = L ++ M := by unfold ptN; rw [hlm]; rfl
     right
     unfold fdF
     rw [if_pos hwx, if_pos hw, hq, hlm, if_pos (someT _), if_pos (someT _), eM, eLM, List.map_append, ldV_app _ _ _ _ hd]
     cases ldV u (M.map mkL) with
     | none => exact ⟨vt0, false, rfl, rfl⟩
     | some y => exact ⟨y, true, rfl, rfl⟩
 ·rw [if_neg hw] at h
  simp at h
theorem fd_cases (t : Vt) (l : List UInt8) : (∃ x, fdF t l = (x, true, 0) ∧ wfV t 1024 = true) ∨ (fdF t l = (vt0, false, 0) ∧ wfV t 1024 = true) ∨ (fdF t l = (vt0, false, 200) ∧ wfV t 1024 = true) ∨ (fdF t l = (vt0, false, 1) ∧ wfV t 1024 = false) := by
 unfold fdF
 by_cases hw : wfV t 1024 = true
 ·rw [if_pos hw]
  cases hp : ptrL l with
  | none => exact .inr (.inr (.inl ⟨rfl, hw⟩))
  | some L =>
   rw [if_pos (someT _)]
   cases ldV t ((ptN l).map mkL) with
   | none => exact .inr (.inl ⟨rfl, hw⟩)
   | some u => exact .inl ⟨u, rfl, hw⟩
 ·rw [if_neg hw]
  exact .inr (.inr (.inr ⟨rfl, by simpa using hw⟩))
theorem ldV_ln : ∀ (L : List ByteArray) (t u : Vt), lnV t → ldV t L = some u → lnV u
 | [], t, u, hl, h => by
  rw [ldV_nil] at h
  cases h
  exact hl
 | nm :: L, t, u, hl, h => by
  cases hs : stI t nm with
  | none => rw [ldV_no hs] at h; cases h
  | some i =>
   cases hk : t.kids[i]? with
   | none =>
    rw [ldV.eq_def] at h
    simp only [hs, hk] at h
    cases h
   | some v =>
    rw [ldV_yes hs hk] at h
    exact ldV_ln L v u (lnV_kid hl hk) h
theorem fd_ln {t x : Vt} {l : List UInt8} (hl : lnV t) (h : fdF t l = (x, true, 0)) : lnV x := by
 unfold fdF at h
 split at h
 ·split at h
  ·cases hd : ldV t ((ptN l).map mkL) with
   | none => rw [hd] at h; simp at h
   | some u =>
    rw [hd] at h
    have : u = x := (Prod.mk.injEq .. ▸ h : _ ∧ _).1
    subst this
    exact ldV_ln _ _ _ hl hd
  ·simp at h
 ·simp at h
mutual
/-- Of a value that is well shaped and not too great each part can be told. -/
theorem okP_of : ∀ (t : Vt) (l : Int), wfV t l = true → blkV t ≤ 1048576 → lnV t → okP t
 | .mk k b r tx ks vs, l, hw, hb, hln => by
  obtain ⟨hpl, -, hwl⟩ := wf_parts hw
  unfold lnV at hln
  unfold blkV at hb
  unfold okP
  refine ⟨fun i hi => ?_, hln.2.1, okPL_of vs (l - 1) hwl (by omega) hln.2.2⟩
  by_cases h5 : k = 5
  ·exact .inl h5
  ·by_cases h6 : k = 6
   ·subst h6
    have hlen : ks.length = vs.length := plain_six hpl
    obtain ⟨s, hs⟩ : ∃ s, ks[i]? = some s := ⟨_, List.getElem?_eq_getElem (by rw [hlen]; exact hi)⟩
    have := blkK_get hs
    exact .inr ⟨h5, s, hs, by omega⟩
   ·have := plain_leaf hpl (by omega)
    subst this
    simp at hi
theorem okPL_of : ∀ (vs : List Vt) (l : Int), wfL vs l = true → blkL vs ≤ 1048576 → lnL vs → okPL vs
 | [], _, _, _, _ => by unfold okPL; trivial
 | v :: vs, l, hw, hb, hln => by
  unfold wfL at hw
  unfold blkL at hb
  unfold lnL at hln
  rw [Bool.and_eq_true] at hw
  unfold okPL
  exact ⟨okP_of v l hw.1 (by omega) hln.1, okPL_of vs l hw.2 (by omega) hln.2⟩
end
mutual
theorem prV_bound : ∀ (t : Vt) (p : List UInt8) (x : List UInt8 × Vt), lnV t → x ∈ prV p t → x.1.length ≤ p.length + 32 * blkV t
 | .mk k b r tx ks vs, p, x, hln, hx => by
  unfold lnV at hln
  rw [prV] at hx
  unfold blkV
  rcases List.mem_cons.1 hx with rfl | hx
  ·show p.length ≤ _; omega
  ·have := prL_bound vs p k ks 0 x hln.2.2 (by omega) hx
   omega
theorem prL_bound : ∀ (vs : List Vt) (p : List UInt8) (k : Int) (ks : List ByteArray) (i : Nat) (x : List UInt8 × Vt), lnL vs → i + vs.length ≤ 1099511627776 → x ∈ prL p k ks i vs → x.1.length ≤ p.length + 14 + 2 * blkK ks + 32 * blkL vs
 | [], p, k, ks, i, x, _, _, hx => by simp [prL] at hx
 | v :: vs, p, k, ks, i, x, hln, hi, hx => by
  unfold lnL at hln
  rw [prL] at hx
  unfold blkL
  rcases List.mem_append.1 hx with hx | hx
  ·have h1 := prV_bound v _ x hln.1 hx
   have h2 : (stpK k ks i).length ≤ 2 * blkK ks + 13 := by
    unfold stpK
    split
    ·rw [itoa_nat]
     have := dec_len 12 i (by have : (10 : Nat) ^ (12 + 1) = 10000000000000 := (by decide); rw [List.length_cons] at hi; omega)
     omega
    ·cases hs : ks[i]? with
     | none =>
      rw [Option.getD_none]
      have : wrN ((⟨#[]⟩ : ByteArray).data.toList) = [] := rfl
      rw [this]
      simp
     | some s =>
      rw [Option.getD_some]
      have h3 := wrN_len s.data.toList
      have h4 := blkK_get hs
      have h5 : s.data.toList.length = s.size := by rw [Array.length_toList]; rfl
      omega
   have h6 : 1 ≤ blkV v := by cases v; unfold blkV; omega
   rw [List.length_append, List.length_append, List.length_singleton] at h1
   omega
  ·have := prL_bound vs p k ks (i + 1) x hln.2 (by rw [List.length_cons] at hi; omega) hx
   omega
end
end Go.Proofs.YtgpagaielnemmaaDoor
