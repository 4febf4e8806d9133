/-
  What stands between quotes, and what it means: in numbers.
-/
import Derived.Test.YtbabdhepnjacdaaDoorPack1
namespace Go.Proofs.YtbabdhepnjacdaaDoor
/-- A digit of base 16; -1: it is none. -/
def hexZ (c : Nat) : Int := if 48 ≤ c ∧ c ≤ 57 then (c : Int) - 48 else if 97 ≤ c ∧ c ≤ 102 then (c : Int) - 87 else if 65 ≤ c ∧ c ≤ 70 then (c : Int) - 55 else -1
theorem hexZ_lt (c : Nat) : -1 ≤ hexZ c ∧ hexZ c < 16 := by
  unfold hexZ
  split
  · omega
  · split
    · omega
    · split <;> omega
/-- A piece: how many bytes it has (0: it isn't right), the number of what it means, whether it is an escape of four digits. -/
structure Pc where
  size : Nat
  means : Nat
  four : Bool
def pc0 : Pc := ⟨0, 0, false⟩
/-- The number of the first j of the four digits. -/
def hexV (b : Nat → Nat) : Nat → Nat
  | 0 => 0
  | j + 1 => hexV b j * 16 + (hexZ (b (2 + j))).toNat
/-- Are the first j of them digits? -/
def hexOk (b : Nat → Nat) : Nat → Bool
  | 0 => true
  | j + 1 => hexOk b j && decide (0 ≤ hexZ (b (2 + j)))
theorem hexV_lt (b : Nat → Nat) (j : Nat) (h : j ≤ 4) : hexV b j < 16 ^ j := by
  induction j with
  | zero => simp [hexV]
  | succ j ih =>
    have h1 := ih (by omega)
    have h2 := hexZ_lt (b (2 + j))
    rw [hexV, Nat.pow_succ]
    omega
/-- The bytes of a text from a place on, 0 behind its end. -/
def bAt (s : ByteArray) (i : Nat) : Nat := (s.data[i]?.getD 0).toNat
theorem bAt_at (s : ByteArray) (i : Nat) (h : i < s.size) : (s[i]'h).toNat = bAt s i := by
  unfold bAt
  rw [Array.getElem?_eq_getElem (show i < s.data.size from h)]
  rfl
theorem bAt_lt (s : ByteArray) (i : Nat) : bAt s i < 256 := (s.data[i]?.getD 0).toNat_lt
/-- The escape of four digits that begins at the bytes b, of which there are n. -/
def fourP (b : Nat → Nat) (n : Nat) : Pc := if 6 ≤ n ∧ hexOk b 4 = true then ⟨6, hexV b 4, true⟩ else pc0
/-- The piece that begins there. -/
def nextP (b : Nat → Nat) (n : Nat) : Pc :=
  if b 0 < 32 ∨ b 0 = 34 then pc0 else if b 0 ≠ 92 then ⟨1, b 0, false⟩ else if n < 2 then pc0
  else if b 1 = 34 ∨ b 1 = 92 ∨ b 1 = 47 then ⟨2, b 1, false⟩ else if b 1 = 98 then ⟨2, 8, false⟩ else if b 1 = 102 then ⟨2, 12, false⟩ else if b 1 = 110 then ⟨2, 10, false⟩ else if b 1 = 114 then ⟨2, 13, false⟩ else if b 1 = 116 then ⟨2, 9, false⟩
  else if b 1 = 117 then fourP b n else pc0
def highP (p : Pc) : Bool := p.four && (decide (55296 ≤ p.means) && decide (p.means ≤ 56319))
def lowP (p : Pc) : Bool := p.four && (decide (56320 ≤ p.means) && decide (p.means ≤ 57343))
theorem fourP_size (b : Nat → Nat) (n : Nat) : (fourP b n).size ≤ n ∧ (fourP b n).means < 65536 := by
  unfold fourP
  split
  · rename_i h
    exact ⟨h.1, by have := hexV_lt b 4 (by decide); simpa using this⟩
  · exact ⟨Nat.zero_le _, by decide⟩
theorem nextP_size (b : Nat → Nat) (n : Nat) (hn : 0 < n) (hb : ∀ i, b i < 256) : (nextP b n).size ≤ n ∧ (nextP b n).means < 65536 := by
  have h4 := fourP_size b n
  have h0 := hb 0
  have h1 := hb 1
  unfold nextP
  repeat' split
  all_goals first
    | exact h4
    | (refine ⟨?_, ?_⟩ <;> simp only [pc0] <;> omega)
/-- The bytes of a character in UTF-8. -/
def charL (n : Nat) : List Nat :=
  if n < 128 then [n] else if n < 2048 then [192 + n / 64, 128 + n % 64] else if n < 65536 then [224 + n / 4096, 128 + n / 64 % 64, 128 + n % 64]
  else [240 + n / 262144, 128 + n / 4096 % 64, 128 + n / 64 % 64, 128 + n % 64]
theorem charL_lt {n : Nat} (h : n < 1114112) : ∀ x ∈ charL n, x < 256 := by
  unfold charL
  repeat' split
  all_goals
    intro x hx
    simp at hx
  · omega
  · rcases hx with rfl | rfl <;> omega
  · rcases hx with rfl | rfl | rfl <;> omega
  · rcases hx with rfl | rfl | rfl | rfl <;> omega
/-- A list's number at a place, 0 behind its end. -/
def lb (l : List Nat) (i : Nat) : Nat := l.getD i 0
theorem bAt_lb (s : ByteArray) : bAt s = lb (byts s) := by
  funext i
  unfold bAt lb byts
  rw [List.getD_eq_getElem?_getD, List.getElem?_map, Array.getElem?_toList]
  cases s.data[i]? <;> rfl
/-- The piece that a list begins with. -/
def nextL (l : List Nat) : Pc := nextP (lb l) l.length
theorem lb_lt {l : List Nat} (h : ∀ x ∈ l, x < 256) (i : Nat) : lb l i < 256 := by
  unfold lb
  rw [List.getD_eq_getElem?_getD]
  cases hi : l[i]? with
  | none => decide
  | some x => exact h x (List.mem_of_getElem? hi)
theorem nextL_size {l : List Nat} (hl : l ≠ []) (h : ∀ x ∈ l, x < 256) : (nextL l).size ≤ l.length ∧ (nextL l).means < 65536 :=
  nextP_size (lb l) l.length (List.length_pos_iff.2 hl) (lb_lt h)
theorem nextP_four (b : Nat → Nat) (n : Nat) (h : (nextP b n).four = true) : (nextP b n).size = 6 := by
  revert h
  unfold nextP
  repeat' split
  all_goals first
    | (intro h; cases h; done)
    | (unfold fourP
       split
       · intro _; rfl
       · intro h; cases h)
theorem nextP_one (b : Nat → Nat) (n : Nat) (hb : ∀ i, b i < 256) (h : (nextP b n).four = false) : (nextP b n).means < 256 := by
  have h0 := hb 0
  have h1 := hb 1
  revert h
  unfold nextP
  repeat' split
  all_goals first
    | (intro _; simp only [pc0]; omega)
    | (unfold fourP
       split
       · intro h; cases h
       · intro _; decide)
/-- What the first piece, or the pair, means: how many bytes it has, and the bytes that it means. -/
def stepL (l : List Nat) : Option (Nat × List Nat) :=
  if (nextL l).size = 0 then none
  else if highP (nextL l) = true ∧ (nextL l).size < l.length ∧ lowP (nextL (l.drop (nextL l).size)) = true then some ((nextL l).size + (nextL (l.drop (nextL l).size)).size, charL (65536 + ((nextL l).means - 55296) * 1024 + ((nextL (l.drop (nextL l).size)).means - 56320)))
  else if highP (nextL l) = true ∨ lowP (nextL l) = true then some ((nextL l).size, charL 65533)
  else if (nextL l).four = true then some ((nextL l).size, charL (nextL l).means) else some ((nextL l).size, [(nextL l).means])
theorem charL_len (n : Nat) : 1 ≤ (charL n).length ∧ (charL n).length ≤ 4 := by
  unfold charL
  repeat' split
  all_goals simp
theorem stepL_some {l o : List Nat} {k : Nat} (hl : l ≠ []) (h : ∀ x ∈ l, x < 256) (e : stepL l = some (k, o)) : 1 ≤ k ∧ k ≤ l.length ∧ o.length ≤ k ∧ ∀ x ∈ o, x < 256 := by
  obtain ⟨h1, h2⟩ := nextL_size hl h
  have hd : ∀ x ∈ l.drop (nextL l).size, x < 256 := fun x hx => h x (List.mem_of_mem_drop hx)
  unfold stepL at e
  by_cases h0 : (nextL l).size = 0
  · rw [if_pos h0] at e; cases e
  · rw [if_neg h0] at e
    by_cases hp : highP (nextL l) = true ∧ (nextL l).size < l.length ∧ lowP (nextL (l.drop (nextL l).size)) = true
    · rw [if_pos hp] at e
      obtain ⟨p1, p2, p3⟩ := hp
      simp only [Option.some.injEq, Prod.mk.injEq] at e
      obtain ⟨rfl, rfl⟩ := e
      have hne : l.drop (nextL l).size ≠ [] := fun e => by
        have := congrArg List.length e
        rw [List.length_drop] at this
        simp at this
        omega
      obtain ⟨q1, q2⟩ := nextL_size hne hd
      rw [List.length_drop] at q1
      unfold highP at p1
      unfold lowP at p3
      simp only [Bool.and_eq_true, decide_eq_true_eq] at p1 p3
      have s1 := nextP_four _ _ p1.1
      have s2 := nextP_four _ _ p3.1
      have c := charL_len (65536 + ((nextL l).means - 55296) * 1024 + ((nextL (l.drop (nextL l).size)).means - 56320))
      refine ⟨by omega, by omega, ?_, charL_lt (by omega)⟩
      have s3 : (nextL l).size = 6 := s1
      omega
    · rw [if_neg hp] at e
      by_cases hh : highP (nextL l) = true ∨ lowP (nextL l) = true
      · rw [if_pos hh] at e
        simp only [Option.some.injEq, Prod.mk.injEq] at e
        obtain ⟨rfl, rfl⟩ := e
        have hf : (nextL l).four = true := by
          rcases hh with hh | hh
          · unfold highP at hh; rw [Bool.and_eq_true] at hh; exact hh.1
          · unfold lowP at hh; rw [Bool.and_eq_true] at hh; exact hh.1
        have s3 : (nextL l).size = 6 := nextP_four _ _ hf
        have c := charL_len 65533
        exact ⟨by omega, h1, by omega, charL_lt (by decide)⟩
      · rw [if_neg hh] at e
        by_cases hf : (nextL l).four = true
        · rw [if_pos hf] at e
          simp only [Option.some.injEq, Prod.mk.injEq] at e
          obtain ⟨rfl, rfl⟩ := e
          have s3 : (nextL l).size = 6 := nextP_four _ _ hf
          have c := charL_len (nextL l).means
          exact ⟨by omega, h1, by omega, charL_lt (by omega)⟩
        · rw [if_neg hf] at e
          simp only [Option.some.injEq, Prod.mk.injEq] at e
          obtain ⟨rfl, rfl⟩ := e
          have h3 := nextP_one (lb l) l.length (lb_lt h) (show (nextL l).four = false by simpa using hf)
          exact ⟨by omega, h1, by simp; omega, fun x hx => by simp at hx; subst hx; exact h3⟩
/-- What all of it means; none: it isn't right. -/
def unescF : Nat → List Nat → Option (List Nat)
  | _, [] => some []
  | 0, _ :: _ => none
  | n + 1, x :: r => match stepL (x :: r) with
    | none => none
    | some (k, o) => (unescF n ((x :: r).drop k)).map (o ++ ·)
def unescL (l : List Nat) : Option (List Nat) := unescF l.length l
theorem unescF_more {l : List Nat} (h : ∀ x ∈ l, x < 256) {n : Nat} (hn : l.length ≤ n) : unescF n l = unescF l.length l := by
  induction n using Nat.strongRecOn generalizing l with
  | ind n ih =>
    cases l with
    | nil => cases n <;> rfl
    | cons x r =>
      cases n with
      | zero => simp at hn
      | succ n =>
        rw [List.length_cons]
        simp only [unescF]
        cases hs : stepL (x :: r) with
        | none => rfl
        | some p =>
          obtain ⟨k, o⟩ := p
          have h1 := stepL_some (by simp) h hs
          have hd : ∀ y ∈ (x :: r).drop k, y < 256 := fun y hy => h y (List.mem_of_mem_drop hy)
          have hlen : ((x :: r).drop k).length ≤ r.length := by rw [List.length_drop, List.length_cons]; omega
          simp only []
          rw [List.length_cons] at hn
          rw [ih n (by omega) hd (by omega), ← ih r.length (by omega) hd hlen]
theorem unescL_some {l o : List Nat} {k : Nat} (hl : l ≠ []) (h : ∀ x ∈ l, x < 256) (hs : stepL l = some (k, o)) : unescL l = (unescL (l.drop k)).map (o ++ ·) := by
  have h1 := stepL_some hl h hs
  cases l with
  | nil => exact absurd rfl hl
  | cons x r =>
    have hd : ∀ y ∈ (x :: r).drop k, y < 256 := fun y hy => h y (List.mem_of_mem_drop hy)
    unfold unescL
    rw [List.length_cons]
    simp only [unescF]
    rw [hs]
    simp only []
    rw [unescF_more hd (by rw [List.length_drop, List.length_cons]; omega)]
theorem byts_lt (s : ByteArray) : ∀ x ∈ byts s, x < 256 := by
  intro x hx
  unfold byts at hx
  simp only [List.mem_map] at hx
  obtain ⟨u, -, rfl⟩ := hx
  exact u.toNat_lt
end Go.Proofs.YtbabdhepnjacdaaDoor
