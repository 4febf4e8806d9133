/-
  Utf8Math, Utf8Forms, Utf8State, Utf8Rows, Utf8Read, one behind the other.
-/
import Derived.Below
import Derived.Test.YtlckhiflhnlgpaaGreatDoorBytsA
import Derived.Test.YtlckhiflhnlgpaaGreatDoorKitA
import Derived.Lib.AppendStr
import Derived.Lib.BufferRead
import Derived.Laws.IdiomStrings
import Derived.WalkKit
/- Which bytes may follow which, in numbers: the state behind some bytes, what a text tells, and the forms of characters. -/
namespace Go.Proofs.YtlckhiflhnlgpaaGreatDoor

/-- How many bytes the form that has begun still lacks, and from where to where the next one may be. -/
structure Q5 where
  left : Nat
  lo : Nat
  hi : Nat
/-- The state: how many bytes came ahead of the first wrong one, whether one came, and the form. -/
structure St5 where
  good : Nat
  wrong : Bool
  q : Q5

def secLo (x : Nat) : Nat := if x = 224 then 160 else if x = 240 then 144 else 128
def secHi (x : Nat) : Nat := if x = 237 then 159 else if x = 244 then 143 else 191
def begQ (q : Q5) (x : Nat) : Option Q5 :=
  if 244 < x then none else if 240 ≤ x then some ⟨3, secLo x, secHi x⟩ else if 224 ≤ x then some ⟨2, secLo x, secHi x⟩ else if 194 ≤ x then some ⟨1, secLo x, secHi x⟩ else if 128 ≤ x then none else some q
def stp (q : Q5) (x : Nat) : Option Q5 := if q.left = 0 then begQ q x else if x < q.lo ∨ q.hi < x then none else some ⟨q.left - 1, 128, 191⟩
def tk (s : St5) (x : Nat) : St5 := if s.wrong then s else match stp s.q x with
  | some q => ⟨s.good + 1, false, q⟩
  | none => ⟨s.good, true, s.q⟩
def s5 : St5 := ⟨0, false, ⟨0, 0, 0⟩⟩
def runS (s : St5) (l : List Nat) : St5 := l.foldl tk s
def badI (s : St5) : Int := if s.wrong = true ∨ 0 < s.q.left then (s.good : Int) else -1
/-- What Bad says of a text. -/
def badOf (z : ByteArray) : Int := badI (runS s5 (byts z))

theorem runS_cons (s : St5) (x : Nat) (l : List Nat) : runS s (x :: l) = runS (tk s x) l := rfl
theorem runS_append (s : St5) (a b : List Nat) : runS s (a ++ b) = runS (runS s a) b := List.foldl_append ..
theorem runS_snoc (s : St5) (a : List Nat) (x : Nat) : runS s (a ++ [x]) = tk (runS s a) x := by rw [runS_append]; rfl
theorem tk_wrong {s : St5} (h : s.wrong = true) (x : Nat) : tk s x = s := by simp [tk, h]
theorem runS_wrong {s : St5} (h : s.wrong = true) (l : List Nat) : runS s l = s := by
  induction l with
  | nil => rfl
  | cons x l ih => rw [runS_cons, tk_wrong h, ih]
theorem tk_some {s : St5} (h : s.wrong = false) {x : Nat} {q : Q5} (hq : stp s.q x = some q) : tk s x = ⟨s.good + 1, false, q⟩ := by simp [tk, h, hq]
theorem tk_none {s : St5} (h : s.wrong = false) {x : Nat} (hq : stp s.q x = none) : tk s x = ⟨s.good, true, s.q⟩ := by simp [tk, h, hq]
/-- What a beginning of a form is, with the state behind it and the number that its bytes hold so far. -/
def FormAt (b : List Nat) (q : Q5) (r : Nat) : Prop :=
  match b with
  | [] => q.left = 0
  | [x] => (194 ≤ x ∧ x ≤ 223 ∧ q = ⟨1, secLo x, secHi x⟩ ∧ r = x - 192) ∨ (224 ≤ x ∧ x ≤ 239 ∧ q = ⟨2, secLo x, secHi x⟩ ∧ r = x - 224) ∨ (240 ≤ x ∧ x ≤ 244 ∧ q = ⟨3, secLo x, secHi x⟩ ∧ r = x - 240)
  | [x, y] => secLo x ≤ y ∧ y ≤ secHi x ∧ ((224 ≤ x ∧ x ≤ 239 ∧ q = ⟨1, 128, 191⟩ ∧ r = (x - 224) * 64 + (y - 128)) ∨ (240 ≤ x ∧ x ≤ 244 ∧ q = ⟨2, 128, 191⟩ ∧ r = (x - 240) * 64 + (y - 128)))
  | [x, y, z] => secLo x ≤ y ∧ y ≤ secHi x ∧ 128 ≤ z ∧ z ≤ 191 ∧ 240 ≤ x ∧ x ≤ 244 ∧ q = ⟨1, 128, 191⟩ ∧ r = ((x - 240) * 64 + (y - 128)) * 64 + (z - 128)
  | _ => False

/-- The number that the next byte makes. -/
def nextR (b : List Nat) (r x left : Nat) : Nat := if b = [] then x &&& (127 >>> left) else r * 64 + x % 64

def sizeN (c : Nat) : Nat := if (55296 ≤ c ∧ c ≤ 57343) ∨ 1114111 < c then 0 else if c < 128 then 1 else if c < 2048 then 2 else if c < 65536 then 3 else 4
/-- The bytes of a character (of what is none: no bytes). -/
def formL (c : Nat) : List Nat :=
  if sizeN c = 1 then [c] else if sizeN c = 2 then [192 + c / 64, 128 + c % 64] else if sizeN c = 3 then [224 + c / 4096, 128 + c / 64 % 64, 128 + c % 64] else if sizeN c = 4 then [240 + c / 262144, 128 + c / 4096 % 64, 128 + c / 64 % 64, 128 + c % 64] else []

set_option maxRecDepth 100000 in
theorem mask_first {x : Nat} (hx : x < 256) : (x < 128 → x &&& (127 >>> 0) = x) ∧ (194 ≤ x → x ≤ 223 → x &&& (127 >>> 1) = x - 192) ∧ (224 ≤ x → x ≤ 239 → x &&& (127 >>> 2) = x - 224) ∧ (240 ≤ x → x ≤ 244 → x &&& (127 >>> 3) = x - 240) := by
  revert x; decide

theorem secLo_ge (x : Nat) : 128 ≤ secLo x := by unfold secLo; split <;> (try split) <;> omega
theorem sec_facts (x : Nat) : (x = 224 → secLo x = 160) ∧ (x = 240 → secLo x = 144) ∧ (x = 237 → secHi x = 159) ∧ (x = 244 → secHi x = 143) := by
  refine ⟨?_, ?_, ?_, ?_⟩ <;> rintro rfl <;> rfl
theorem secHi_le (x : Nat) : secHi x ≤ 191 := by unfold secHi; split <;> (try split) <;> omega

set_option maxRecDepth 10000 in
/-- A byte more, that fits: either the form is whole, or it is a longer beginning. -/
theorem form_step {b : List Nat} {q q' : Q5} {r x : Nat} (h : FormAt b q r) (hx : x < 256) (hs : stp q x = some q') :
    (q'.left = 0 ∧ b ++ [x] = formL (nextR b r x q'.left) ∧ sizeN (nextR b r x q'.left) = b.length + 1) ∨ (0 < q'.left ∧ FormAt (b ++ [x]) q' (nextR b r x q'.left)) := by
  obtain ⟨m0, m1, m2, m3⟩ := mask_first hx
  match b, h with
  | [], h =>
    have h : q.left = 0 := h
    simp only [stp, h, if_true, begQ] at hs
    simp only [nextR, if_true, List.nil_append]
    split at hs
    · cases hs
    · split at hs
      · cases hs
        right; refine ⟨by simp, .inr (.inr ⟨by omega, by omega, rfl, ?_⟩)⟩
        exact m3 (by omega) (by omega)
      · split at hs
        · cases hs
          right; refine ⟨by simp, .inr (.inl ⟨by omega, by omega, rfl, ?_⟩)⟩
          exact m2 (by omega) (by omega)
        · split at hs
          · cases hs
            right; refine ⟨by simp, .inl ⟨by omega, by omega, rfl, ?_⟩⟩
            exact m1 (by omega) (by omega)
          · split at hs
            · cases hs
            · cases hs
              left
              rw [h, m0 (by omega)]
              have e : sizeN x = 1 := by unfold sizeN; rw [if_neg (by omega), if_pos (by omega)]
              exact ⟨rfl, by unfold formL; rw [if_pos e], e⟩
  | [y], h =>
    have hl := secLo_ge y
    have hh := secHi_le y
    rcases h with ⟨h1, h2, rfl, rfl⟩ | ⟨h1, h2, rfl, rfl⟩ | ⟨h1, h2, rfl, rfl⟩
    · simp only [stp] at hs
      rw [if_neg (by decide)] at hs
      split at hs
      · cases hs
      · cases hs
        left
        simp only [nextR]
        rw [if_neg (by simp)]
        have e : sizeN ((y - 192) * 64 + x % 64) = 2 := by unfold sizeN; rw [if_neg (by omega), if_neg (by omega), if_pos (by omega)]
        refine ⟨by simp, ?_, e⟩
        unfold formL
        rw [if_neg (by omega), if_pos e]
        simp
        omega
    · simp only [stp] at hs
      rw [if_neg (by decide)] at hs
      split at hs
      · cases hs
      · cases hs
        right
        simp only [nextR]
        rw [if_neg (by simp)]
        refine ⟨by simp, ?_⟩
        show secLo y ≤ x ∧ _
        exact ⟨by omega, by omega, .inl ⟨h1, h2, rfl, by omega⟩⟩
    · simp only [stp] at hs
      rw [if_neg (by decide)] at hs
      split at hs
      · cases hs
      · cases hs
        right
        simp only [nextR]
        rw [if_neg (by simp)]
        refine ⟨by simp, ?_⟩
        show secLo y ≤ x ∧ _
        exact ⟨by omega, by omega, .inr ⟨h1, h2, rfl, by omega⟩⟩
  | [y, z], h =>
    obtain ⟨k1, k2, h⟩ := h
    have hl := secLo_ge y
    have hh := secHi_le y
    rcases h with ⟨h1, h2, rfl, rfl⟩ | ⟨h1, h2, rfl, rfl⟩
    · simp only [stp] at hs
      rw [if_neg (by decide)] at hs
      split at hs
      · cases hs
      · cases hs
        left
        simp only [nextR]
        rw [if_neg (by simp)]
        have e : sizeN (((y - 224) * 64 + (z - 128)) * 64 + x % 64) = 3 := by
          obtain ⟨f1, f2, f3, f4⟩ := sec_facts y
          unfold sizeN
          rw [if_neg (by omega), if_neg (by omega), if_neg (by omega), if_pos (by omega)]
        refine ⟨by simp, ?_, e⟩
        unfold formL
        rw [if_neg (by omega), if_neg (by omega), if_pos e]
        simp
        omega
    · simp only [stp] at hs
      rw [if_neg (by decide)] at hs
      split at hs
      · cases hs
      · cases hs
        right
        simp only [nextR]
        rw [if_neg (by simp)]
        refine ⟨by simp, ?_⟩
        show secLo y ≤ z ∧ _
        exact ⟨k1, k2, by omega, by omega, h1, h2, rfl, by omega⟩
  | [y, z, t], h =>
    obtain ⟨k1, k2, t1, t2, h1, h2, rfl, rfl⟩ := h
    have hl := secLo_ge y
    have hh := secHi_le y
    simp only [stp] at hs
    rw [if_neg (by decide)] at hs
    split at hs
    · cases hs
    · cases hs
      left
      simp only [nextR]
      rw [if_neg (by simp)]
      have e : sizeN ((((y - 240) * 64 + (z - 128)) * 64 + (t - 128)) * 64 + x % 64) = 4 := by
        obtain ⟨f1, f2, f3, f4⟩ := sec_facts y
        unfold sizeN
        rw [if_neg (by omega), if_neg (by omega), if_neg (by omega), if_neg (by omega)]
      refine ⟨by simp, ?_, e⟩
      unfold formL
      rw [if_neg (by omega), if_neg (by omega), if_neg (by omega), if_pos e]
      simp
      omega

theorem begQ_left {q q' : Q5} {x : Nat} (h : q.left = 0) (hb : begQ q x = some q') : q'.left ≤ 3 := by
  unfold begQ at hb
  split at hb
  · cases hb
  · split at hb
    · cases hb; simp
    · split at hb
      · cases hb; simp
      · split at hb
        · cases hb; simp
        · split at hb
          · cases hb
          · cases hb; omega
theorem stp_left {q q' : Q5} {x : Nat} (h : q.left ≤ 3) (hb : stp q x = some q') : q'.left ≤ 3 := by
  unfold stp at hb
  split at hb
  · exact begQ_left (by assumption) hb
  · split at hb
    · cases hb
    · cases hb; show q.left - 1 ≤ 3; omega
theorem tk_left {s : St5} {x : Nat} (h : s.q.left ≤ 3) : (tk s x).q.left ≤ 3 := by
  cases hw : s.wrong with
  | true => rw [tk_wrong hw]; exact h
  | false =>
    cases hs : stp s.q x with
    | none => rw [tk_none hw hs]; exact h
    | some q => rw [tk_some hw hs]; exact stp_left h hs
theorem runS_left {s : St5} (h : s.q.left ≤ 3) (l : List Nat) : (runS s l).q.left ≤ 3 := by
  induction l generalizing s with
  | nil => exact h
  | cons x l ih => exact ih (tk_left h)
theorem tk_good (s : St5) (x : Nat) : (tk s x).good ≤ s.good + 1 := by
  cases hw : s.wrong with
  | true => rw [tk_wrong hw]; omega
  | false =>
    cases hs : stp s.q x with
    | none => rw [tk_none hw hs]; show s.good ≤ _; omega
    | some q => rw [tk_some hw hs]; exact Nat.le_refl _
theorem runS_good (s : St5) (l : List Nat) : (runS s l).good ≤ s.good + l.length := by
  induction l generalizing s with
  | nil => exact Nat.le_refl _
  | cons x l ih => have h1 := ih (tk s x); have h2 := tk_good s x; show (runS (tk s x) l).good ≤ _; simp only [List.length_cons]; omega
theorem byt_at (s : ByteArray) (i : Nat) (h : i < s.size) : s[i].toNat = byt s i := by
  have h' : i < s.data.toList.length := by rw [Array.length_toList]; exact h
  unfold byt
  rw [List.getD_eq_getElem?_getD, List.getElem?_eq_getElem h']
  rfl
theorem byt_lt (s : ByteArray) (i : Nat) : byt s i < 256 := UInt8.toNat_lt _
/-- What a text tells from a place on, where r is what the form that began at p holds so far, and the next byte is the number i. -/
def tel (q : Q5) (p r i : Nat) : List Nat → List (Nat × Nat)
  | [] => []
  | x :: l => match stp q x with
    | none => []
    | some q' =>
      if q'.left = 0 then (p, if i = p then x &&& (127 >>> q'.left) else r * 64 + x % 64) :: tel q' (i + 1) (if i = p then x &&& (127 >>> q'.left) else r * 64 + x % 64) (i + 1) l
      else tel q' p (if i = p then x &&& (127 >>> q'.left) else r * 64 + x % 64) (i + 1) l
end Go.Proofs.YtlckhiflhnlgpaaGreatDoor

/- A character's form, byte by byte. -/
namespace Go.Proofs.YtlckhiflhnlgpaaGreatDoor

end Go.Proofs.YtlckhiflhnlgpaaGreatDoor

/- What the methods of utf8's state do with it. -/
namespace Go.Proofs.YtlckhiflhnlgpaaGreatDoor
open Go.RowKit

/-- All but block b is as it was. -/
def Only (b : Nat) (w w' : World) : Prop := Below b w w' ∧ w'.heap.size = w.heap.size ∧ ∀ c, c ≠ b → w'.heap[c]? = w.heap[c]?
theorem Only.refl (b : Nat) (w : World) : Only b w w := ⟨Below.refl _ _, rfl, fun _ _ => rfl⟩
theorem Only.trans {b : Nat} {w w1 w2 : World} (h : Only b w w1) (k : Only b w1 w2) : Only b w w2 := ⟨h.1.trans k.1, k.2.1.trans h.2.1, fun c hc => (k.2.2 c hc).trans (h.2.2 c hc)⟩
theorem Only.set {b : Nat} {w w' : World} (h : Only b w w') (i : Nat) (v : Value) : Only b w (w'.setCell ⟨b, i, none⟩ v) :=
  ⟨h.1.setCell (p := ⟨b, i, none⟩) (Nat.le_refl _) _, by simp [h.2.1], fun c hc => (Below.heap_setCell w' ⟨b, i, none⟩ v c hc).trans (h.2.2 c hc)⟩
theorem Only.drew {b : Nat} {w w' : World} (h : Only b w w') : Only b w w'.drew := ⟨h.1.drew, h.2.1, h.2.2⟩
theorem Only.below {b k : Nat} {w w' : World} (h : Only b w w') (hk : k ≤ b) : Below k w w' := h.1.mono hk
theorem Only.at {b c : Nat} {w w' : World} (h : Only b w w') {cs : Array Value} {t : TypeId} (ha : At w c cs t) (hc : c ≠ b) : At w' c cs t := (h.2.2 c hc).trans ha

/-- The cells of a state. -/
def stC (s : St5) : Array Value := #[.int .i64 (s.good : Int), .bool s.wrong, .int .i64 (s.q.left : Int), .int .u8 (s.q.lo : Int), .int .u8 (s.q.hi : Int)]

set_option maxRecDepth 10000 in
theorem second_calls (x : Nat) (w : World) : Calls Tryz.prog 151 #[.int .u8 (x : Int)] w fun e w' => e = .returned (.tuple #[.int .u8 (secLo x : Int), .int .u8 (secHi x : Int)]) ∧ w' = w := by
  by_cases h1 : x = 224
  · subst h1
    go_enter Tryz.func151, Tryz.ntmps151
    go_wp2
    exact bodyPost_ret (v := .tuple #[.int .u8 160, .int .u8 191]) (by simp [results, Tryz.results151, go_sem]; try decide) rfl ⟨rfl, rfl⟩
  by_cases h2 : x = 237
  · subst h2
    go_enter Tryz.func151, Tryz.ntmps151
    go_wp2
    exact bodyPost_ret (v := .tuple #[.int .u8 128, .int .u8 159]) (by simp [results, Tryz.results151, go_sem]; try decide) rfl ⟨rfl, rfl⟩
  by_cases h3 : x = 240
  · subst h3
    go_enter Tryz.func151, Tryz.ntmps151
    go_wp2
    exact bodyPost_ret (v := .tuple #[.int .u8 144, .int .u8 191]) (by simp [results, Tryz.results151, go_sem]; try decide) rfl ⟨rfl, rfl⟩
  by_cases h4 : x = 244
  · subst h4
    go_enter Tryz.func151, Tryz.ntmps151
    go_wp2
    exact bodyPost_ret (v := .tuple #[.int .u8 128, .int .u8 143]) (by simp [results, Tryz.results151, go_sem]; try decide) rfl ⟨rfl, rfl⟩
  have e1 : secLo x = 128 := by unfold secLo; rw [if_neg h1, if_neg h3]
  have e2 : secHi x = 191 := by unfold secHi; rw [if_neg h2, if_neg h4]
  rw [e1, e2]
  have i1 : ¬ ((x : Int) = 224) := by omega
  have i2 : ¬ ((x : Int) = 237) := by omega
  have i3 : ¬ ((x : Int) = 240) := by omega
  have i4 : ¬ ((x : Int) = 244) := by omega
  clear e1 e2
  go_enter Tryz.func151, Tryz.ntmps151
  go_wp2
  exact bodyPost_ret (v := .tuple #[.int .u8 128, .int .u8 191]) (by simp [results, Tryz.results151, go_sem]; try decide) rfl ⟨rfl, rfl⟩

set_option maxRecDepth 10000 in
set_option maxHeartbeats 1000000 in
theorem begin_calls (b : Nat) (t : TypeId) (s : St5) (x : Nat) (w : World) (hA : At w b (stC s) t) (hl : s.q.left = 0) :
    Calls Tryz.prog 147 #[.pointer (some ⟨b, 0, none⟩), .int .u8 (x : Int)] w fun e w' => e = .returned (.bool (begQ s.q x).isSome) ∧ Only b w w' ∧ At w' b (stC ⟨s.good, s.wrong, (begQ s.q x).getD s.q⟩) t := by
  have hA' := hid hA
  have c2 : w.cell? ⟨b, 2, none⟩ = some (.int .i64 0) := by rw [hA.cell]; simp [stC, hl]
  have c3 : w.cell? ⟨b, 3, none⟩ = some (.int .u8 (s.q.lo : Int)) := by rw [hA.cell]; simp [stC]
  have c4 : w.cell? ⟨b, 4, none⟩ = some (.int .u8 (s.q.hi : Int)) := by rw [hA.cell]; simp [stC]
  have f2 := hA.frozen 2
  have f3 := hA.frozen 3
  have f4 := hA.frozen 4
  clear hA
  by_cases h1 : 244 < x
  · have e : begQ s.q x = none := by unfold begQ; rw [if_pos h1]
    have i1 : (244 : Int) < (x : Int) := by omega
    rw [e]
    clear e
    go_enter Tryz.func147, Tryz.ntmps147
    go_wp2
    go_ret
    exact ⟨rfl, Only.refl _ _, hA'.out⟩
  have i1 : ¬ (244 : Int) < (x : Int) := by omega
  by_cases h2 : 240 ≤ x
  · have e : begQ s.q x = some ⟨3, secLo x, secHi x⟩ := by unfold begQ; rw [if_neg h1, if_pos h2]
    have i2 : (240 : Int) ≤ (x : Int) := by omega
    rw [e]
    clear e
    go_enter Tryz.func147, Tryz.ntmps147
    go_wp2_with (first | (refine (second_calls x _).mono ?_; rintro e w1 ⟨rfl, hw1⟩; rw [hw1]; clear hw1))
    go_ret
    exact ⟨rfl, ((((((Only.refl _ _).set _ _).set _ _).set _ _).set _ _).set _ _), by simpa [stC] using (((((hA'.out.set 2 (.int .i64 1)).set 2 (.int .i64 2)).set 2 (.int .i64 3)).set 3 (.int .u8 (secLo x : Int))).set 4 (.int .u8 (secHi x : Int)))⟩
  have i2 : ¬ (240 : Int) ≤ (x : Int) := by omega
  by_cases h3 : 224 ≤ x
  · have e : begQ s.q x = some ⟨2, secLo x, secHi x⟩ := by unfold begQ; rw [if_neg h1, if_neg h2, if_pos h3]
    have i3 : (224 : Int) ≤ (x : Int) := by omega
    rw [e]
    clear e
    go_enter Tryz.func147, Tryz.ntmps147
    go_wp2_with (first | (refine (second_calls x _).mono ?_; rintro e w1 ⟨rfl, hw1⟩; rw [hw1]; clear hw1))
    go_ret
    exact ⟨rfl, (((((Only.refl _ _).set _ _).set _ _).set _ _).set _ _), by simpa [stC] using ((((hA'.out.set 2 (.int .i64 1)).set 2 (.int .i64 2)).set 3 (.int .u8 (secLo x : Int))).set 4 (.int .u8 (secHi x : Int)))⟩
  have i3 : ¬ (224 : Int) ≤ (x : Int) := by omega
  by_cases h4 : 194 ≤ x
  · have e : begQ s.q x = some ⟨1, secLo x, secHi x⟩ := by unfold begQ; rw [if_neg h1, if_neg h2, if_neg h3, if_pos h4]
    have i4 : (194 : Int) ≤ (x : Int) := by omega
    rw [e]
    clear e
    go_enter Tryz.func147, Tryz.ntmps147
    go_wp2_with (first | (refine (second_calls x _).mono ?_; rintro e w1 ⟨rfl, hw1⟩; rw [hw1]; clear hw1))
    go_ret
    exact ⟨rfl, ((((Only.refl _ _).set _ _).set _ _).set _ _), by simpa [stC] using (((hA'.out.set 2 (.int .i64 1)).set 3 (.int .u8 (secLo x : Int))).set 4 (.int .u8 (secHi x : Int)))⟩
  have i4 : ¬ (194 : Int) ≤ (x : Int) := by omega
  by_cases h5 : 128 ≤ x
  · have e : begQ s.q x = none := by unfold begQ; rw [if_neg h1, if_neg h2, if_neg h3, if_neg h4, if_pos h5]
    have i5 : (128 : Int) ≤ (x : Int) := by omega
    rw [e]
    clear e
    go_enter Tryz.func147, Tryz.ntmps147
    go_wp2
    go_ret
    exact ⟨rfl, Only.refl _ _, hA'.out⟩
  have i5 : ¬ (128 : Int) ≤ (x : Int) := by omega
  have e : begQ s.q x = some s.q := by unfold begQ; rw [if_neg h1, if_neg h2, if_neg h3, if_neg h4, if_neg h5]
  rw [e]
  clear e
  go_enter Tryz.func147, Tryz.ntmps147
  go_wp2
  go_ret
  exact ⟨rfl, Only.refl _ _, hA'.out⟩

/-- The state behind a byte that comes, as far as it fits. -/
def fitQ (s : St5) (x : Nat) : St5 := ⟨s.good, s.wrong, (stp s.q x).getD s.q⟩

set_option maxRecDepth 10000 in
set_option maxHeartbeats 1000000 in
theorem fits_calls (b : Nat) (t : TypeId) (s : St5) (x : Nat) (w : World) (hA : At w b (stC s) t) (hL : s.q.left ≤ 3) :
    Calls Tryz.prog 141 #[.pointer (some ⟨b, 0, none⟩), .int .u8 (x : Int)] w fun e w' => e = .returned (.bool (stp s.q x).isSome) ∧ Only b w w' ∧ At w' b (stC (fitQ s x)) t := by
  have hA' := hid hA
  have f2 := hA.frozen 2
  have f3 := hA.frozen 3
  have f4 := hA.frozen 4
  by_cases h0 : s.q.left = 0
  · have c2 : w.cell? ⟨b, 2, none⟩ = some (.int .i64 0) := by rw [hA.cell]; simp [stC, h0]
    have hb := hid (begin_calls b t s x w hA h0)
    have e : stp s.q x = begQ s.q x := by unfold stp; rw [if_pos h0]
    unfold fitQ
    rw [e]
    clear e hA h0
    go_enter Tryz.func141, Tryz.ntmps141
    go_wp2_with fail
    refine Calls.mono hb.out ?_
    rintro e w1 ⟨rfl, h1, h2⟩
    have h1' := hid h1
    have h2' := hid h2
    clear h1 h2 hb
    go_wp2
    go_ret
    exact ⟨rfl, h1'.out, h2'.out⟩
  · have c2 : w.cell? ⟨b, 2, none⟩ = some (.int .i64 (s.q.left : Int)) := by rw [hA.cell]; simp [stC]
    have c3 : w.cell? ⟨b, 3, none⟩ = some (.int .u8 (s.q.lo : Int)) := by rw [hA.cell]; simp [stC]
    have c4 : w.cell? ⟨b, 4, none⟩ = some (.int .u8 (s.q.hi : Int)) := by rw [hA.cell]; simp [stC]
    have i0 : ¬ ((s.q.left : Int) = 0) := by omega
    have iL : (s.q.left : Int) ≤ 3 := by omega
    have i1 : (1 : Int) ≤ (s.q.left : Int) := by omega
    clear hA
    by_cases h1 : x < s.q.lo
    · have e : stp s.q x = none := by unfold stp; rw [if_neg h0, if_pos (.inl h1)]
      have i2 : (x : Int) < (s.q.lo : Int) := by omega
      unfold fitQ
      rw [e]
      clear e h0 hL
      go_enter Tryz.func141, Tryz.ntmps141
      go_wp2
      go_ret
      exact ⟨rfl, Only.refl _ _, hA'.out⟩
    by_cases h2 : s.q.hi < x
    · have e : stp s.q x = none := by unfold stp; rw [if_neg h0, if_pos (.inr h2)]
      have i2 : ¬ (x : Int) < (s.q.lo : Int) := by omega
      have i3 : (s.q.hi : Int) < (x : Int) := by omega
      unfold fitQ
      rw [e]
      clear e h0 hL h1
      go_enter Tryz.func141, Tryz.ntmps141
      go_wp2
      go_ret
      exact ⟨rfl, Only.refl _ _, hA'.out⟩
    · have e : stp s.q x = some ⟨s.q.left - 1, 128, 191⟩ := by unfold stp; rw [if_neg h0, if_neg (fun h => by omega)]
      have i2 : ¬ (x : Int) < (s.q.lo : Int) := by omega
      have i3 : ¬ (s.q.hi : Int) < (x : Int) := by omega
      have i4 := hid (show (s.q.left : Int) - 1 = ((s.q.left - 1 : Nat) : Int) by omega)
      unfold fitQ
      rw [e]
      clear e h0 hL h1 h2
      go_enter Tryz.func141, Tryz.ntmps141
      go_wp2
      go_ret
      refine ⟨rfl, (((Only.refl _ _).set _ _).set _ _).set _ _, ?_⟩
      have h := ((hA'.out.set 2 (.int .i64 ((s.q.left : Int) - 1))).set 3 (.int .u8 128)).set 4 (.int .u8 191)
      rw [i4.out] at h ⊢
      simpa [stC] using h

set_option maxRecDepth 10000 in
set_option maxHeartbeats 1000000 in
theorem take_calls (b : Nat) (t : TypeId) (s : St5) (x : Nat) (w : World) (hA : At w b (stC s) t) (hL : s.q.left ≤ 3) (hg : s.good < 9223372036854775807) :
    Calls Tryz.prog 129 #[.pointer (some ⟨b, 0, none⟩), .int .u8 (x : Int)] w fun e w' => e = .returned (.bool (!(tk s x).wrong)) ∧ Only b w w' ∧ At w' b (stC (tk s x)) t := by
  have hA' := hid hA
  have f0 := hA.frozen 0
  have f1 := hA.frozen 1
  cases hw : s.wrong with
  | true =>
    have c1 : w.cell? ⟨b, 1, none⟩ = some (.bool true) := by rw [hA.cell]; simp [stC, hw]
    rw [tk_wrong hw, hw]
    clear hA hL hg
    go_enter Tryz.func129, Tryz.ntmps129
    go_wp2
    go_ret
    refine ⟨rfl, (Only.refl _ _).set _ _, ?_⟩
    simpa [stC, hw] using hA'.out.set 1 (.bool true)
  | false =>
    have c1 : w.cell? ⟨b, 1, none⟩ = some (.bool false) := by rw [hA.cell]; simp [stC, hw]
    have hf := hid (fits_calls b t s x w hA hL)
    have hw' := hid hw
    clear hA hL hw
    go_enter Tryz.func129, Tryz.ntmps129
    go_wp2_with fail
    refine Calls.mono hf.out ?_
    rintro e w1 ⟨rfl, h1, h2⟩
    have h1' := hid h1
    have h2' := hid h2
    have d0 : w1.cell? ⟨b, 0, none⟩ = some (.int .i64 (s.good : Int)) := by rw [h2.cell]; simp [stC, fitQ]
    have d1 : w1.cell? ⟨b, 1, none⟩ = some (.bool false) := by rw [h2.cell]; simp [stC, fitQ, hw'.out]
    have g0 := h2.frozen 0
    have g1 := h2.frozen 1
    have hgi : (s.good : Int) < 9223372036854775807 := by omega
    clear h1 h2 hf
    cases hs : stp s.q x with
    | none =>
      have e2 := hid (tk_none hw'.out hs)
      have hs' := hid hs
      clear hs
      simp only [Option.isSome_none]
      go_wp2
      go_ret
      rw [e2.out]
      refine ⟨rfl, h1'.out.set _ _, ?_⟩
      have h := h2'.out.set 1 (.bool true)
      simpa [stC, fitQ, hs'.out] using h
    | some q =>
      have e2 := hid (tk_some hw'.out hs)
      have hs' := hid hs
      clear hs
      simp only [Option.isSome_some]
      go_wp2
      go_ret
      rw [e2.out]
      refine ⟨rfl, h1'.out.set _ _, ?_⟩
      have h := h2'.out.set 0 (.int .i64 ((s.good : Int) + 1))
      simpa [stC, fitQ, hs'.out, hw'.out] using h
end Go.Proofs.YtlckhiflhnlgpaaGreatDoor

/- Rows of bytes, and what string(..) makes of them. -/
namespace Go.Proofs.YtlckhiflhnlgpaaGreatDoor
open Go.RowKit

theorem strCells_byts (s : ByteArray) : Lib.strCells s = (byts s).map fun (x : Nat) => Value.int .u8 (x : Int) := by
  unfold Lib.strCells byts
  rw [List.map_map]
  rfl
theorem strCells_mkS {l : List Nat} (h : ∀ x ∈ l, x < 256) : Lib.strCells (mkS l) = l.map fun (x : Nat) => Value.int .u8 (x : Int) := by rw [strCells_byts, byts_mkS h]
/-- The text of a row of bytes. -/
theorem conv_row {w : World} {B : Nat} {v : Value} {S : ByteArray} (h : w.ownsRow B 5 1 v S.size (Lib.strCells S)) : (convert 39 9 v).run Tryz.prog w = .ok (.string S) w := by
  rcases h.2 with ⟨rfl, h0⟩ | ⟨g, cap, cur, rfl, hb, hgb, h3⟩
  · have e : S = ByteArray.empty := by
      apply byts_inj
      have h1 := byts_length S
      rw [h0] at h1
      rw [List.eq_nil_of_length_eq_zero h1]
      rfl
    rw [e]
    exact Lib.run_convert_nil_bytes w 39 9 5 0 Tryz.underlying39 Tryz.underlying5 Tryz.underlying9
  · have hl : S.size = S.data.toList.length := by rw [Array.length_toList]; rfl
    have hr := run_convert_bytes_back (P := Tryz.prog) w 39 9 5 ⟨g, 0, none⟩ cap S.data.toList Tryz.underlying39 Tryz.underlying5 Tryz.underlying9 (fun j hj => by
      exact h.cells (g := g) rfl j _ (by
        unfold Lib.strCells
        rw [List.getElem?_map, List.getElem?_eq_getElem hj]
        rfl))
    rw [← hl] at hr
    rw [hr]
theorem infoU8 : (Tryz.prog.info? 5).map (fun i => (i.zero, i.size, i.bytes)) = some (some (.int .u8 0), 1, 1) := by kernel_rfl

end Go.Proofs.YtlckhiflhnlgpaaGreatDoor

/- What utf8.Bad, and a Scan's New, Feed and End answer. -/
namespace Go.Proofs.YtlckhiflhnlgpaaGreatDoor
open Go.RowKit

set_option maxRecDepth 10000 in
set_option maxHeartbeats 1000000 in
theorem read_calls (b : Nat) (t : TypeId) (s : St5) (z : ByteArray) (w : World) (hA : At w b (stC s) t) (hL : s.q.left ≤ 3) (hg : s.good + z.size < 9223372036854775807) :
    Calls Tryz.prog 112 #[.pointer (some ⟨b, 0, none⟩), .string z] w fun e w' => e = .returned (.bool (!(runS s (byts z)).wrong)) ∧ Only b w w' ∧ At w' b (stC (runS s (byts z))) t := by
  have hA' := hid hA
  have hzz : z.size < 9223372036854775807 := by omega
  clear hA
  go_enter Tryz.func112, Tryz.ntmps112
  go_wp2
  go_loopw [8] (fun ii wr => ∃ i : Nat, i ≤ z.size ∧ ii = .int .i64 (i : Int) ∧ Only b w wr ∧ At wr b (stC (runS s ((byts z).take i))) t) (fun ii _ => z.size - (intOf ii).toNat)
  case atStart => exact ⟨0, Nat.zero_le _, rfl, Only.refl _ _, hA'.out⟩
  case round =>
    obtain ⟨i, hi, rfl, hO, hB⟩ := hrel
    have hO' := hid hO
    have hB' := hid hB
    clear hO
    by_cases hlt : i < z.size
    · have hti := hid (take_calls b t (runS s ((byts z).take i)) (byt z i) wr hB (runS_left hL _) (by have := runS_good s ((byts z).take i); rw [List.length_take] at this; omega))
      rw [← runS_snoc, ← byts_take z i hlt] at hti
      have hlti : (i : Int) < (z.size : Int) := by omega
      clear hB
      go_wp2_with fail
      rw [byt_at]
      refine Calls.mono hti.out ?_
      rintro e w1 ⟨rfl, h1, h2⟩
      have h1' := hid (hO'.out.trans h1)
      have h2' := hid h2
      clear h1 h2 hti
      cases hw : (runS s ((byts z).take (i + 1))).wrong with
      | true =>
        have hw' := hid hw
        clear hw
        simp only [Bool.not_true]
        go_wp2
        go_ret
        have e1 : runS s (byts z) = runS s ((byts z).take (i + 1)) := by
          conv => lhs; rw [← List.take_append_drop (i + 1) (byts z), runS_append]
          exact runS_wrong hw'.out _
        rw [e1, hw'.out]
        exact ⟨rfl, h1'.out, h2'.out⟩
      | false =>
        clear hw
        simp only [Bool.not_false]
        go_wp2
        go_roundw
        case rel => exact ⟨i + 1, hlt, by simp, h1'.out, h2'.out⟩
        case measure => simp [intOf]; omega
    · obtain rfl : i = z.size := by omega
      rw [byts_whole] at hB hB'
      have c1 : wr.cell? ⟨b, 1, none⟩ = some (.bool (runS s (byts z)).wrong) := by rw [hB.cell]; simp [stC]
      clear hB hlt
      go_wp2
      go_ret
      exact ⟨rfl, hO'.out, hB'.out⟩

set_option maxRecDepth 10000 in
theorem bad_calls (b : Nat) (t : TypeId) (s : St5) (w : World) (hA : At w b (stC s) t) :
    Calls Tryz.prog 113 #[.pointer (some ⟨b, 0, none⟩)] w fun e w' => e = .returned (.int .i64 (badI s)) ∧ w' = w := by
  have c0 : w.cell? ⟨b, 0, none⟩ = some (.int .i64 (s.good : Int)) := by rw [hA.cell]; simp [stC]
  have c2 : w.cell? ⟨b, 2, none⟩ = some (.int .i64 (s.q.left : Int)) := by rw [hA.cell]; simp [stC]
  unfold badI
  cases hw : s.wrong with
  | true =>
    have c1 : w.cell? ⟨b, 1, none⟩ = some (.bool true) := by rw [hA.cell]; simp [stC, hw]
    rw [if_pos (.inl rfl)]
    clear hA hw
    go_enter Tryz.func113, Tryz.ntmps113
    go_wp2
    go_ret
    exact ⟨rfl, rfl⟩
  | false =>
    have c1 : w.cell? ⟨b, 1, none⟩ = some (.bool false) := by rw [hA.cell]; simp [stC, hw]
    by_cases h : 0 < s.q.left
    · rw [if_pos (.inr h)]
      have hi : (0 : Int) < (s.q.left : Int) := by omega
      clear hA hw
      go_enter Tryz.func113, Tryz.ntmps113
      go_wp2
      go_ret
      exact ⟨rfl, rfl⟩
    · rw [if_neg (fun k => by rcases k with k | k; cases k; exact h k)]
      have hi : ¬ (0 : Int) < (s.q.left : Int) := by omega
      clear hA hw
      go_enter Tryz.func113, Tryz.ntmps113
      go_wp2
      go_ret
      exact ⟨rfl, rfl⟩

set_option maxRecDepth 10000 in
theorem badF_calls (z : ByteArray) (hz : z.size < 9223372036854775807) (w : World) :
    Calls Tryz.prog 100 #[.string z] w fun e w' => e = .returned (.int .i64 (badOf z)) ∧ Below w.heap.size w w' := by
  have hA0 : At (w.alloc (.cells (stC s5) 121)) w.heap.size (stC s5) 121 := At.new _ _ _
  have hb0 : Below w.heap.size w (w.alloc (.cells (stC s5) 121)) := (Below.refl _ _).alloc (Nat.le_refl _) _
  have hr := hid (read_calls w.heap.size 121 s5 z _ hA0 (by decide) (by show 0 + z.size < _; omega))
  have hb0' := hid hb0
  clear hA0 hb0 hz
  go_enter Tryz.func100, Tryz.ntmps100
  go_wp2_with fail
  refine Calls.mono hr.out ?_
  rintro e w1 ⟨rfl, h1, h2⟩
  have hb := hid (bad_calls w.heap.size 121 _ w1 h2)
  have h1' := hid (hb0'.out.trans (h1.below (Nat.le_refl _)))
  clear hr h1 h2
  go_wp2_with fail
  refine Calls.mono hb.out ?_
  rintro e w2 ⟨rfl, rfl⟩
  clear hb
  go_wp2
  go_ret
  exact ⟨rfl, h1'.out⟩

end Go.Proofs.YtlckhiflhnlgpaaGreatDoor
