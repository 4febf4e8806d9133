/-
  Utf8Math, Utf8Forms, Utf8State, Utf8Rows, Utf8Read, one behind the other.
-/
import Derived.Below
import Derived.Test.YthfbmelfflpenaaDoorBytsA
import Derived.Test.YthfbmelfflpenaaDoorPack1
import Derived.Lib.AppendStr
import Derived.Lib.BufferRead
import Derived.Laws.IdiomStrings
import Derived.WalkKit
/- Which bytes may follow which, in numbers: the state behind some bytes, what a text tells, and the forms of characters. -/
namespace Go.Proofs.YthfbmelfflpenaaDoor

/-- How many bytes the form that has begun still lacks, and from where to where the next one may be. -/
structure Q5 where
  left : Nat
  lo : Nat
  hi : Nat
/-- The state: how many bytes came ahead of the first wrong one, whether one came, and the form. -/
structure St5 where
  good : Nat
  wrong : Bool
  q : Q5

def secLo (x : Nat) : Nat := if x = 224 then 160 else if x = 240 then 144 else 128
def secHi (x : Nat) : Nat := if x = 237 then 159 else if x = 244 then 143 else 191
def begQ (q : Q5) (x : Nat) : Option Q5 :=
  if 244 < x then none else if 240 ≤ x then some ⟨3, secLo x, secHi x⟩ else if 224 ≤ x then some ⟨2, secLo x, secHi x⟩ else if 194 ≤ x then some ⟨1, secLo x, secHi x⟩ else if 128 ≤ x then none else some q
def stp (q : Q5) (x : Nat) : Option Q5 := if q.left = 0 then begQ q x else if x < q.lo ∨ q.hi < x then none else some ⟨q.left - 1, 128, 191⟩
def tk (s : St5) (x : Nat) : St5 := if s.wrong then s else match stp s.q x with
  | some q => ⟨s.good + 1, false, q⟩
  | none => ⟨s.good, true, s.q⟩
def s5 : St5 := ⟨0, false, ⟨0, 0, 0⟩⟩
def runS (s : St5) (l : List Nat) : St5 := l.foldl tk s
def badI (s : St5) : Int := if s.wrong = true ∨ 0 < s.q.left then (s.good : Int) else -1
/-- What Bad says of a text. -/
def badOf (z : ByteArray) : Int := badI (runS s5 (byts z))

theorem runS_nil (s : St5) : runS s [] = s := rfl
theorem runS_cons (s : St5) (x : Nat) (l : List Nat) : runS s (x :: l) = runS (tk s x) l := rfl
theorem runS_append (s : St5) (a b : List Nat) : runS s (a ++ b) = runS (runS s a) b := List.foldl_append ..
theorem runS_snoc (s : St5) (a : List Nat) (x : Nat) : runS s (a ++ [x]) = tk (runS s a) x := by rw [runS_append]; rfl
theorem tk_wrong {s : St5} (h : s.wrong = true) (x : Nat) : tk s x = s := by simp [tk, h]
theorem runS_wrong {s : St5} (h : s.wrong = true) (l : List Nat) : runS s l = s := by
  induction l with
  | nil => rfl
  | cons x l ih => rw [runS_cons, tk_wrong h, ih]
theorem tk_some {s : St5} (h : s.wrong = false) {x : Nat} {q : Q5} (hq : stp s.q x = some q) : tk s x = ⟨s.good + 1, false, q⟩ := by simp [tk, h, hq]
theorem tk_none {s : St5} (h : s.wrong = false) {x : Nat} (hq : stp s.q x = none) : tk s x = ⟨s.good, true, s.q⟩ := by simp [tk, h, hq]
/-- What a beginning of a form is, with the state behind it and the number that its bytes hold so far. -/
def FormAt (b : List Nat) (q : Q5) (r : Nat) : Prop :=
  match b with
  | [] => q.left = 0
  | [x] => (194 ≤ x ∧ x ≤ 223 ∧ q = ⟨1, secLo x, secHi x⟩ ∧ r = x - 192) ∨ (224 ≤ x ∧ x ≤ 239 ∧ q = ⟨2, secLo x, secHi x⟩ ∧ r = x - 224) ∨ (240 ≤ x ∧ x ≤ 244 ∧ q = ⟨3, secLo x, secHi x⟩ ∧ r = x - 240)
  | [x, y] => secLo x ≤ y ∧ y ≤ secHi x ∧ ((224 ≤ x ∧ x ≤ 239 ∧ q = ⟨1, 128, 191⟩ ∧ r = (x - 224) * 64 + (y - 128)) ∨ (240 ≤ x ∧ x ≤ 244 ∧ q = ⟨2, 128, 191⟩ ∧ r = (x - 240) * 64 + (y - 128)))
  | [x, y, z] => secLo x ≤ y ∧ y ≤ secHi x ∧ 128 ≤ z ∧ z ≤ 191 ∧ 240 ≤ x ∧ x ≤ 244 ∧ q = ⟨1, 128, 191⟩ ∧ r = ((x - 240) * 64 + (y - 128)) * 64 + (z - 128)
  | _ => False

/-- The number that the next byte makes. -/
def nextR (b : List Nat) (r x left : Nat) : Nat := if b = [] then x &&& (127 >>> left) else r * 64 + x % 64

def sizeN (c : Nat) : Nat := if (55296 ≤ c ∧ c ≤ 57343) ∨ 1114111 < c then 0 else if c < 128 then 1 else if c < 2048 then 2 else if c < 65536 then 3 else 4
/-- The bytes of a character (of what is none: no bytes). -/
def formL (c : Nat) : List Nat :=
  if sizeN c = 1 then [c] else if sizeN c = 2 then [192 + c / 64, 128 + c % 64] else if sizeN c = 3 then [224 + c / 4096, 128 + c / 64 % 64, 128 + c % 64] else if sizeN c = 4 then [240 + c / 262144, 128 + c / 4096 % 64, 128 + c / 64 % 64, 128 + c % 64] else []

set_option maxRecDepth 100000 in
theorem mask_first {x : Nat} (hx : x < 256) : (x < 128 → x &&& (127 >>> 0) = x) ∧ (194 ≤ x → x ≤ 223 → x &&& (127 >>> 1) = x - 192) ∧ (224 ≤ x → x ≤ 239 → x &&& (127 >>> 2) = x - 224) ∧ (240 ≤ x → x ≤ 244 → x &&& (127 >>> 3) = x - 240) := by
  revert x; decide

theorem secLo_ge (x : Nat) : 128 ≤ secLo x := by unfold secLo; split <;> (try split) <;> omega
theorem sec_facts (x : Nat) : (x = 224 → secLo x = 160) ∧ (x = 240 → secLo x = 144) ∧ (x = 237 → secHi x = 159) ∧ (x = 244 → secHi x = 143) := by
  refine ⟨?_, ?_, ?_, ?_⟩ <;> rintro rfl <;> rfl
theorem secHi_le (x : Nat) : secHi x ≤ 191 := by unfold secHi; split <;> (try split) <;> omega

set_option maxRecDepth 10000 in
/-- A byte more, that fits: either the form is whole, or it is a longer beginning. -/
theorem form_step {b : List Nat} {q q' : Q5} {r x : Nat} (h : FormAt b q r) (hx : x < 256) (hs : stp q x = some q') :
    (q'.left = 0 ∧ b ++ [x] = formL (nextR b r x q'.left) ∧ sizeN (nextR b r x q'.left) = b.length + 1) ∨ (0 < q'.left ∧ FormAt (b ++ [x]) q' (nextR b r x q'.left)) := by
  obtain ⟨m0, m1, m2, m3⟩ := mask_first hx
  match b, h with
  | [], h =>
    have h : q.left = 0 := h
    simp only [stp, h, if_true, begQ] at hs
    simp only [nextR, if_true, List.nil_append]
    split at hs
    · cases hs
    · split at hs
      · cases hs
        right; refine ⟨by simp, .inr (.inr ⟨by omega, by omega, rfl, ?_⟩)⟩
        exact m3 (by omega) (by omega)
      · split at hs
        · cases hs
          right; refine ⟨by simp, .inr (.inl ⟨by omega, by omega, rfl, ?_⟩)⟩
          exact m2 (by omega) (by omega)
        · split at hs
          · cases hs
            right; refine ⟨by simp, .inl ⟨by omega, by omega, rfl, ?_⟩⟩
            exact m1 (by omega) (by omega)
          · split at hs
            · cases hs
            · cases hs
              left
              rw [h, m0 (by omega)]
              have e : sizeN x = 1 := by unfold sizeN; rw [if_neg (by omega), if_pos (by omega)]
              exact ⟨rfl, by unfold formL; rw [if_pos e], e⟩
  | [y], h =>
    have hl := secLo_ge y
    have hh := secHi_le y
    rcases h with ⟨h1, h2, rfl, rfl⟩ | ⟨h1, h2, rfl, rfl⟩ | ⟨h1, h2, rfl, rfl⟩
    · simp only [stp] at hs
      rw [if_neg (by decide)] at hs
      split at hs
      · cases hs
      · cases hs
        left
        simp only [nextR]
        rw [if_neg (by simp)]
        have e : sizeN ((y - 192) * 64 + x % 64) = 2 := by unfold sizeN; rw [if_neg (by omega), if_neg (by omega), if_pos (by omega)]
        refine ⟨by simp, ?_, e⟩
        unfold formL
        rw [if_neg (by omega), if_pos e]
        simp
        omega
    · simp only [stp] at hs
      rw [if_neg (by decide)] at hs
      split at hs
      · cases hs
      · cases hs
        right
        simp only [nextR]
        rw [if_neg (by simp)]
        refine ⟨by simp, ?_⟩
        show secLo y ≤ x ∧ _
        exact ⟨by omega, by omega, .inl ⟨h1, h2, rfl, by omega⟩⟩
    · simp only [stp] at hs
      rw [if_neg (by decide)] at hs
      split at hs
      · cases hs
      · cases hs
        right
        simp only [nextR]
        rw [if_neg (by simp)]
        refine ⟨by simp, ?_⟩
        show secLo y ≤ x ∧ _
        exact ⟨by omega, by omega, .inr ⟨h1, h2, rfl, by omega⟩⟩
  | [y, z], h =>
    obtain ⟨k1, k2, h⟩ := h
    have hl := secLo_ge y
    have hh := secHi_le y
    rcases h with ⟨h1, h2, rfl, rfl⟩ | ⟨h1, h2, rfl, rfl⟩
    · simp only [stp] at hs
      rw [if_neg (by decide)] at hs
      split at hs
      · cases hs
      · cases hs
        left
        simp only [nextR]
        rw [if_neg (by simp)]
        have e : sizeN (((y - 224) * 64 + (z - 128)) * 64 + x % 64) = 3 := by
          obtain ⟨f1, f2, f3, f4⟩ := sec_facts y
          unfold sizeN
          rw [if_neg (by omega), if_neg (by omega), if_neg (by omega), if_pos (by omega)]
        refine ⟨by simp, ?_, e⟩
        unfold formL
        rw [if_neg (by omega), if_neg (by omega), if_pos e]
        simp
        omega
    · simp only [stp] at hs
      rw [if_neg (by decide)] at hs
      split at hs
      · cases hs
      · cases hs
        right
        simp only [nextR]
        rw [if_neg (by simp)]
        refine ⟨by simp, ?_⟩
        show secLo y ≤ z ∧ _
        exact ⟨k1, k2, by omega, by omega, h1, h2, rfl, by omega⟩
  | [y, z, t], h =>
    obtain ⟨k1, k2, t1, t2, h1, h2, rfl, rfl⟩ := h
    have hl := secLo_ge y
    have hh := secHi_le y
    simp only [stp] at hs
    rw [if_neg (by decide)] at hs
    split at hs
    · cases hs
    · cases hs
      left
      simp only [nextR]
      rw [if_neg (by simp)]
      have e : sizeN ((((y - 240) * 64 + (z - 128)) * 64 + (t - 128)) * 64 + x % 64) = 4 := by
        obtain ⟨f1, f2, f3, f4⟩ := sec_facts y
        unfold sizeN
        rw [if_neg (by omega), if_neg (by omega), if_neg (by omega), if_neg (by omega)]
      refine ⟨by simp, ?_, e⟩
      unfold formL
      rw [if_neg (by omega), if_neg (by omega), if_neg (by omega), if_pos e]
      simp
      omega

theorem begQ_left {q q' : Q5} {x : Nat} (h : q.left = 0) (hb : begQ q x = some q') : q'.left ≤ 3 := by
  unfold begQ at hb
  split at hb
  · cases hb
  · split at hb
    · cases hb; simp
    · split at hb
      · cases hb; simp
      · split at hb
        · cases hb; simp
        · split at hb
          · cases hb
          · cases hb; omega
theorem stp_left {q q' : Q5} {x : Nat} (h : q.left ≤ 3) (hb : stp q x = some q') : q'.left ≤ 3 := by
  unfold stp at hb
  split at hb
  · exact begQ_left (by assumption) hb
  · split at hb
    · cases hb
    · cases hb; show q.left - 1 ≤ 3; omega
theorem tk_left {s : St5} {x : Nat} (h : s.q.left ≤ 3) : (tk s x).q.left ≤ 3 := by
  cases hw : s.wrong with
  | true => rw [tk_wrong hw]; exact h
  | false =>
    cases hs : stp s.q x with
    | none => rw [tk_none hw hs]; exact h
    | some q => rw [tk_some hw hs]; exact stp_left h hs
theorem runS_left {s : St5} (h : s.q.left ≤ 3) (l : List Nat) : (runS s l).q.left ≤ 3 := by
  induction l generalizing s with
  | nil => exact h
  | cons x l ih => exact ih (tk_left h)
theorem tk_good (s : St5) (x : Nat) : (tk s x).good ≤ s.good + 1 := by
  cases hw : s.wrong with
  | true => rw [tk_wrong hw]; omega
  | false =>
    cases hs : stp s.q x with
    | none => rw [tk_none hw hs]; show s.good ≤ _; omega
    | some q => rw [tk_some hw hs]; exact Nat.le_refl _
theorem runS_good (s : St5) (l : List Nat) : (runS s l).good ≤ s.good + l.length := by
  induction l generalizing s with
  | nil => exact Nat.le_refl _
  | cons x l ih => have h1 := ih (tk s x); have h2 := tk_good s x; show (runS (tk s x) l).good ≤ _; simp only [List.length_cons]; omega
theorem byt_at (s : ByteArray) (i : Nat) (h : i < s.size) : s[i].toNat = byt s i := by
  have h' : i < s.data.toList.length := by rw [Array.length_toList]; exact h
  unfold byt
  rw [List.getD_eq_getElem?_getD, List.getElem?_eq_getElem h']
  rfl
theorem byt_lt (s : ByteArray) (i : Nat) : byt s i < 256 := UInt8.toNat_lt _
/-- What a text tells from a place on, where r is what the form that began at p holds so far, and the next byte is the number i. -/
def tel (q : Q5) (p r i : Nat) : List Nat → List (Nat × Nat)
  | [] => []
  | x :: l => match stp q x with
    | none => []
    | some q' =>
      if q'.left = 0 then (p, if i = p then x &&& (127 >>> q'.left) else r * 64 + x % 64) :: tel q' (i + 1) (if i = p then x &&& (127 >>> q'.left) else r * 64 + x % 64) (i + 1) l
      else tel q' p (if i = p then x &&& (127 >>> q'.left) else r * 64 + x % 64) (i + 1) l
end Go.Proofs.YthfbmelfflpenaaDoor

/- A character's form, byte by byte. -/
namespace Go.Proofs.YthfbmelfflpenaaDoor

theorem stp_next {q : Q5} {x : Nat} (h : q.left ≠ 0) (h1 : q.lo ≤ x) (h2 : x ≤ q.hi) : stp q x = some ⟨q.left - 1, 128, 191⟩ := by unfold stp; rw [if_neg h, if_neg (by omega)]
theorem stp_first {q : Q5} {x : Nat} (h : q.left = 0) : (x < 128 → stp q x = some q) ∧ (194 ≤ x → x ≤ 223 → stp q x = some ⟨1, secLo x, secHi x⟩) ∧ (224 ≤ x → x ≤ 239 → stp q x = some ⟨2, secLo x, secHi x⟩) ∧ (240 ≤ x → x ≤ 244 → stp q x = some ⟨3, secLo x, secHi x⟩) := by
  refine ⟨fun a => ?_, fun a b => ?_, fun a b => ?_, fun a b => ?_⟩ <;> (unfold stp begQ; rw [if_pos h, if_neg (by omega)])
  · rw [if_neg (by omega), if_neg (by omega), if_neg (by omega), if_neg (by omega)]
  · rw [if_neg (by omega), if_neg (by omega), if_pos (by omega)]
  · rw [if_neg (by omega), if_pos (by omega)]
  · rw [if_pos (by omega)]
theorem sec_more (x : Nat) : (x ≠ 224 → x ≠ 240 → secLo x = 128) ∧ (x ≠ 237 → x ≠ 244 → secHi x = 191) := by
  constructor
  · intro a b; unfold secLo; rw [if_neg a, if_neg b]
  · intro a b; unfold secHi; rw [if_neg a, if_neg b]

/-- The bytes of a form come one after another: each fits, and only behind the last one nothing is left. -/
theorem run_form {s : St5} (hw : s.wrong = false) (hl : s.q.left = 0) (c : Nat) (hc : sizeN c ≠ 0) :
    (formL c).length = sizeN c ∧ (∀ k, 0 < k → k < sizeN c → ∃ q r, runS s ((formL c).take k) = ⟨s.good + k, false, q⟩ ∧ FormAt ((formL c).take k) q r ∧ 0 < q.left ∧ 128 ≤ q.lo ∧ q.hi ≤ 191) ∧
      ∃ q, runS s (formL c) = ⟨s.good + sizeN c, false, q⟩ ∧ q.left = 0 := by
  have hcases : sizeN c = 1 ∧ c < 128 ∨ sizeN c = 2 ∧ 128 ≤ c ∧ c < 2048 ∨ sizeN c = 3 ∧ 2048 ≤ c ∧ c < 65536 ∧ ¬ (55296 ≤ c ∧ c ≤ 57343) ∨ sizeN c = 4 ∧ 65536 ≤ c ∧ c ≤ 1114111 := by
    unfold sizeN at hc ⊢
    split at hc
    · omega
    · rename_i hn
      rw [if_neg hn]
      split at hc
      · rename_i h1; rw [if_pos h1]; omega
      · rename_i h1; rw [if_neg h1]
        split at hc
        · rename_i h2; rw [if_pos h2]; omega
        · rename_i h2; rw [if_neg h2]
          split at hc
          · rename_i h3; rw [if_pos h3]; omega
          · rename_i h3; rw [if_neg h3]; omega
  clear hc
  rcases hcases with ⟨e, h1⟩ | ⟨e, h1, h2⟩ | ⟨e, h1, h2, h3⟩ | ⟨e, h1, h2⟩
  · have hF : formL c = [c] := by unfold formL; rw [if_pos e]
    rw [hF, e]
    refine ⟨rfl, fun k a b => by omega, s.q, ?_, hl⟩
    rw [runS_cons, tk_some hw ((stp_first hl).1 h1)]
    rfl
  · have hF : formL c = [192 + c / 64, 128 + c % 64] := by unfold formL; rw [if_neg (by omega), if_pos e]
    rw [hF, e]
    have a1 := (stp_first (x := 192 + c / 64) hl).2.1 (by omega) (by omega)
    have m := sec_more (192 + c / 64)
    have l1 := m.1 (by omega) (by omega)
    have l2 := m.2 (by omega) (by omega)
    generalize hx : 192 + c / 64 = x at *
    have a2 := stp_next (q := ⟨1, secLo x, secHi x⟩) (x := 128 + c % 64) (by simp) (by show secLo x ≤ _; omega) (by show _ ≤ secHi x; omega)
    refine ⟨rfl, fun k a b => ?_, ⟨0, 128, 191⟩, ?_, rfl⟩
    · obtain rfl : k = 1 := by omega
      refine ⟨⟨1, secLo x, secHi x⟩, x - 192, ?_, .inl ⟨by omega, by omega, rfl, rfl⟩, by simp, by show 128 ≤ secLo x; omega, by show secHi x ≤ 191; omega⟩
      show runS s [x] = _
      rw [runS_cons, tk_some hw a1]
      rfl
    · rw [runS_cons, tk_some hw a1, runS_cons, tk_some rfl a2]
      rfl
  · have hF : formL c = [224 + c / 4096, 128 + c / 64 % 64, 128 + c % 64] := by unfold formL; rw [if_neg (by omega), if_neg (by omega), if_pos e]
    rw [hF, e]
    have a1 := (stp_first (x := 224 + c / 4096) hl).2.2.1 (by omega) (by omega)
    have f := sec_facts (224 + c / 4096)
    have g := sec_more (224 + c / 4096)
    have b1 := secLo_ge (224 + c / 4096)
    have b2 := secHi_le (224 + c / 4096)
    have d1 : secLo (224 + c / 4096) ≤ 128 + c / 64 % 64 := by
      by_cases k : 224 + c / 4096 = 224
      · rw [f.1 k]; omega
      · rw [g.1 k (by omega)]; omega
    have d2 : 128 + c / 64 % 64 ≤ secHi (224 + c / 4096) := by
      by_cases k : 224 + c / 4096 = 237
      · rw [f.2.2.1 k]; omega
      · rw [g.2 k (by omega)]; omega
    generalize hx : 224 + c / 4096 = x at *
    generalize hy : 128 + c / 64 % 64 = y at *
    have a2 := stp_next (q := ⟨2, secLo x, secHi x⟩) (x := y) (by simp) d1 d2
    have a3 := stp_next (q := ⟨1, 128, 191⟩) (x := 128 + c % 64) (by simp) (by show 128 ≤ _; omega) (by show _ ≤ 191; omega)
    refine ⟨rfl, fun k a b => ?_, ⟨0, 128, 191⟩, ?_, rfl⟩
    · by_cases k1 : k = 1
      · subst k1
        refine ⟨⟨2, secLo x, secHi x⟩, x - 224, ?_, .inr (.inl ⟨by omega, by omega, rfl, rfl⟩), by simp, b1, b2⟩
        show runS s [x] = _
        rw [runS_cons, tk_some hw a1]
        rfl
      · obtain rfl : k = 2 := by omega
        refine ⟨⟨1, 128, 191⟩, (x - 224) * 64 + (y - 128), ?_, ⟨d1, d2, .inl ⟨by omega, by omega, rfl, rfl⟩⟩, by simp, by simp, by simp⟩
        show runS s [x, y] = _
        rw [runS_cons, tk_some hw a1, runS_cons, tk_some rfl a2]
        rfl
    · rw [runS_cons, tk_some hw a1, runS_cons, tk_some rfl a2, runS_cons, tk_some rfl a3]
      rfl
  · have hF : formL c = [240 + c / 262144, 128 + c / 4096 % 64, 128 + c / 64 % 64, 128 + c % 64] := by unfold formL; rw [if_neg (by omega), if_neg (by omega), if_neg (by omega), if_pos e]
    rw [hF, e]
    have a1 := (stp_first (x := 240 + c / 262144) hl).2.2.2 (by omega) (by omega)
    have f := sec_facts (240 + c / 262144)
    have g := sec_more (240 + c / 262144)
    have b1 := secLo_ge (240 + c / 262144)
    have b2 := secHi_le (240 + c / 262144)
    have d1 : secLo (240 + c / 262144) ≤ 128 + c / 4096 % 64 := by
      by_cases k : 240 + c / 262144 = 240
      · rw [f.2.1 k]; omega
      · rw [g.1 (by omega) k]; omega
    have d2 : 128 + c / 4096 % 64 ≤ secHi (240 + c / 262144) := by
      by_cases k : 240 + c / 262144 = 244
      · rw [f.2.2.2 k]; omega
      · rw [g.2 (by omega) k]; omega
    have e1 : 240 ≤ 240 + c / 262144 := by omega
    have e2 : 240 + c / 262144 ≤ 244 := by omega
    generalize 240 + c / 262144 = x at *
    generalize 128 + c / 4096 % 64 = y at *
    have a2 := stp_next (q := ⟨3, secLo x, secHi x⟩) (x := y) (by simp) d1 d2
    have e3 : 128 ≤ 128 + c / 64 % 64 := by omega
    have e4 : 128 + c / 64 % 64 ≤ 191 := by omega
    generalize 128 + c / 64 % 64 = z at *
    have a3 := stp_next (q := ⟨2, 128, 191⟩) (x := z) (by simp) e3 e4
    have a4 := stp_next (q := ⟨1, 128, 191⟩) (x := 128 + c % 64) (by simp) (by show 128 ≤ _; omega) (by show _ ≤ 191; omega)
    refine ⟨rfl, fun k a b => ?_, ⟨0, 128, 191⟩, ?_, rfl⟩
    · by_cases k1 : k = 1
      · subst k1
        refine ⟨⟨3, secLo x, secHi x⟩, x - 240, ?_, .inr (.inr ⟨e1, e2, rfl, rfl⟩), by simp, b1, b2⟩
        show runS s [x] = _
        rw [runS_cons, tk_some hw a1]
        rfl
      · by_cases k2 : k = 2
        · subst k2
          refine ⟨⟨2, 128, 191⟩, (x - 240) * 64 + (y - 128), ?_, ⟨d1, d2, .inr ⟨e1, e2, rfl, rfl⟩⟩, by simp, by simp, by simp⟩
          show runS s [x, y] = _
          rw [runS_cons, tk_some hw a1, runS_cons, tk_some rfl a2]
          rfl
        · obtain rfl : k = 3 := by omega
          refine ⟨⟨1, 128, 191⟩, ((x - 240) * 64 + (y - 128)) * 64 + (z - 128), ?_, ⟨d1, d2, e3, e4, e1, e2, rfl, rfl⟩, by simp, by simp, by simp⟩
          show runS s [x, y, z] = _
          rw [runS_cons, tk_some hw a1, runS_cons, tk_some rfl a2, runS_cons, tk_some rfl a3]
          rfl
    · rw [runS_cons, tk_some hw a1, runS_cons, tk_some rfl a2, runS_cons, tk_some rfl a3, runS_cons, tk_some rfl a4]
      rfl
theorem formL_none {c : Nat} (h : sizeN c = 0) : formL c = [] := by unfold formL; rw [if_neg (by omega), if_neg (by omega), if_neg (by omega), if_neg (by omega)]
theorem formL_len (c : Nat) : (formL c).length = sizeN c := by
  by_cases h : sizeN c = 0
  · rw [formL_none h, h]; rfl
  · exact (run_form (s := s5) rfl rfl c h).1
theorem size_bounds {c k : Nat} (h : sizeN c = k) : (k = 1 → c < 128) ∧ (k = 2 → 128 ≤ c ∧ c < 2048) ∧ (k = 3 → 2048 ≤ c ∧ c < 65536) ∧ (k = 4 → 65536 ≤ c ∧ c ≤ 1114111) := by
  unfold sizeN at h
  split at h
  · omega
  · split at h
    · omega
    · split at h
      · omega
      · split at h <;> omega
theorem formL_lt (c : Nat) : ∀ x ∈ formL c, x < 256 := by
  intro x hx
  have hb := size_bounds (c := c) rfl
  unfold formL at hx
  split at hx
  · simp only [List.mem_cons, List.not_mem_nil, or_false] at hx; omega
  · split at hx
    · simp only [List.mem_cons, List.not_mem_nil, or_false] at hx; omega
    · split at hx
      · simp only [List.mem_cons, List.not_mem_nil, or_false] at hx; omega
      · split at hx
        · simp only [List.mem_cons, List.not_mem_nil, or_false] at hx; omega
        · cases hx
/-- The form of a character is UTF-8. -/
theorem bad_form (c : Nat) : badI (runS s5 (formL c)) = -1 := by
  by_cases h : sizeN c = 0
  · rw [formL_none h]; rfl
  · obtain ⟨_, _, q, h1, h2⟩ := run_form (s := s5) rfl rfl c h
    rw [h1]
    unfold badI
    rw [if_neg]
    intro k
    rcases k with k | k
    · cases k
    · have : 0 < q.left := k
      omega
end Go.Proofs.YthfbmelfflpenaaDoor

/- What the methods of utf8's state do with it. -/
namespace Go.Proofs.YthfbmelfflpenaaDoor
open Go.RowKit

/-- All but block b is as it was. -/
def Only (b : Nat) (w w' : World) : Prop := Below b w w' ∧ w'.heap.size = w.heap.size ∧ ∀ c, c ≠ b → w'.heap[c]? = w.heap[c]?
theorem Only.refl (b : Nat) (w : World) : Only b w w := ⟨Below.refl _ _, rfl, fun _ _ => rfl⟩
theorem Only.trans {b : Nat} {w w1 w2 : World} (h : Only b w w1) (k : Only b w1 w2) : Only b w w2 := ⟨h.1.trans k.1, k.2.1.trans h.2.1, fun c hc => (k.2.2 c hc).trans (h.2.2 c hc)⟩
theorem Only.set {b : Nat} {w w' : World} (h : Only b w w') (i : Nat) (v : Value) : Only b w (w'.setCell ⟨b, i, none⟩ v) :=
  ⟨h.1.setCell (p := ⟨b, i, none⟩) (Nat.le_refl _) _, by simp [h.2.1], fun c hc => (Below.heap_setCell w' ⟨b, i, none⟩ v c hc).trans (h.2.2 c hc)⟩
theorem Only.drew {b : Nat} {w w' : World} (h : Only b w w') : Only b w w'.drew := ⟨h.1.drew, h.2.1, h.2.2⟩
theorem Only.below {b k : Nat} {w w' : World} (h : Only b w w') (hk : k ≤ b) : Below k w w' := h.1.mono hk
theorem Only.at {b c : Nat} {w w' : World} (h : Only b w w') {cs : Array Value} {t : TypeId} (ha : At w c cs t) (hc : c ≠ b) : At w' c cs t := (h.2.2 c hc).trans ha

/-- The cells of a state. -/
def stC (s : St5) : Array Value := #[.int .i64 (s.good : Int), .bool s.wrong, .int .i64 (s.q.left : Int), .int .u8 (s.q.lo : Int), .int .u8 (s.q.hi : Int)]

/-- The state behind a byte that comes, as far as it fits. -/
def fitQ (s : St5) (x : Nat) : St5 := ⟨s.good, s.wrong, (stp s.q x).getD s.q⟩

end Go.Proofs.YthfbmelfflpenaaDoor

/- Rows of bytes, and what string(..) makes of them. -/
namespace Go.Proofs.YthfbmelfflpenaaDoor
open Go.RowKit

theorem strCells_byts (s : ByteArray) : Lib.strCells s = (byts s).map fun (x : Nat) => Value.int .u8 (x : Int) := by
  unfold Lib.strCells byts
  rw [List.map_map]
  rfl
theorem strCells_mkS {l : List Nat} (h : ∀ x ∈ l, x < 256) : Lib.strCells (mkS l) = l.map fun (x : Nat) => Value.int .u8 (x : Int) := by rw [strCells_byts, byts_mkS h]
theorem strCells_append (a b : ByteArray) : Lib.strCells (a ++ b) = Lib.strCells a ++ Lib.strCells b := by rw [strCells_byts, strCells_byts, strCells_byts, byts_append, List.map_append]

/-- The text of a row of bytes. -/
theorem conv_row {w : World} {B : Nat} {v : Value} {S : ByteArray} (h : w.ownsRow B 5 1 v S.size (Lib.strCells S)) : (convert 91 9 v).run Tryd.prog w = .ok (.string S) w := by
  rcases h.2 with ⟨rfl, h0⟩ | ⟨g, cap, cur, rfl, hb, hgb, h3⟩
  · have e : S = ByteArray.empty := by
      apply byts_inj
      have h1 := byts_length S
      rw [h0] at h1
      rw [List.eq_nil_of_length_eq_zero h1]
      rfl
    rw [e]
    exact Lib.run_convert_nil_bytes w 91 9 5 0 Tryd.underlying91 Tryd.underlying5 Tryd.underlying9
  · have hl : S.size = S.data.toList.length := by rw [Array.length_toList]; rfl
    have hr := run_convert_bytes_back (P := Tryd.prog) w 91 9 5 ⟨g, 0, none⟩ cap S.data.toList Tryd.underlying91 Tryd.underlying5 Tryd.underlying9 (fun j hj => by
      exact h.cells (g := g) rfl j _ (by
        unfold Lib.strCells
        rw [List.getElem?_map, List.getElem?_eq_getElem hj]
        rfl))
    rw [← hl] at hr
    rw [hr]
theorem infoU8 : (Tryd.prog.info? 5).map (fun i => (i.zero, i.size, i.bytes)) = some (some (.int .u8 0), 1, 1) := by kernel_rfl

/-- The text of a character. -/
def formS (r : Int) : ByteArray := mkS (if r < 0 then [] else formL r.toNat)

end Go.Proofs.YthfbmelfflpenaaDoor

/- What utf8.Bad, and a Scan's New, Feed and End answer. -/
namespace Go.Proofs.YthfbmelfflpenaaDoor
open Go.RowKit

end Go.Proofs.YthfbmelfflpenaaDoor
