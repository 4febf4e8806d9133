/-
  VaMath, VaWrap, VaSim, VaDocs, VaEnds, one behind the other.
-/
import Derived.Test.YtlckhiflhnlgpaaGreatDoorBytsA
/- A machine that takes a text byte by byte, in numbers. -/
namespace Go.Proofs.YtlckhiflhnlgpaaGreatDoor

/-- The machine: the brackets that are open, what is awaited, whether a text is a name, the rest of a word, how many digits or bytes have to come, and between which bounds. -/
structure Mc where
  op : List Nat
  st : Nat
  nm : Bool
  wd : List Nat
  lf : Nat
  lo : Nat
  hi : Nat
def mc0 : Mc := ⟨[], 0, false, [], 0, 0, 0⟩
def blankN (c : Nat) : Bool := decide (c = 32 ∨ c = 9 ∨ c = 10 ∨ c = 13)
def digN (c : Nat) : Bool := decide (48 ≤ c ∧ c ≤ 57)
def hexN (c : Nat) : Bool := decide ((48 ≤ c ∧ c ≤ 57) ∨ (97 ≤ c ∧ c ≤ 102) ∨ (65 ≤ c ∧ c ≤ 70))
def topN (m : Mc) : Nat := m.op.getLastD 0
/-- The first byte of a value. -/
def valueM (m : Mc) (c : Nat) : Option Mc :=
  if c = 91 then some { m with nm := false, op := m.op ++ [91], st := 1 }
  else if c = 123 then some { m with nm := false, op := m.op ++ [123], st := 2 }
  else if c = 34 then some { m with nm := false, st := 6 }
  else if c = 45 then some { m with nm := false, st := 10 }
  else if c = 48 then some { m with nm := false, st := 11 }
  else if digN c = true then some { m with nm := false, st := 12 }
  else if c = 110 then some { m with nm := false, st := 9, wd := [117, 108, 108] }
  else if c = 116 then some { m with nm := false, st := 9, wd := [114, 117, 101] }
  else if c = 102 then some { m with nm := false, st := 9, wd := [97, 108, 115, 101] }
  else none
/-- A byte behind a value. -/
def afterM (m : Mc) (c : Nat) : Option Mc :=
  if blankN c = true then some { m with st := 5 }
  else if c = 44 ∧ topN m = 91 then some { m with st := 0 }
  else if c = 44 ∧ topN m = 123 then some { m with st := 3 }
  else if (c = 93 ∧ topN m = 91) ∨ (c = 125 ∧ topN m = 123) then some { m with st := 5, op := m.op.dropLast }
  else none
def lowB (c : Nat) : Nat := if c = 224 then 160 else if c = 240 then 144 else 128
def highB (c : Nat) : Nat := if c = 237 then 159 else if c = 244 then 143 else 191
/-- A byte within a text. -/
def charM (m : Mc) (c : Nat) : Option Mc :=
  if 0 < m.lf then (if c < m.lo ∨ m.hi < c then none else some { m with lf := m.lf - 1, lo := 128, hi := 191 })
  else if c = 34 ∧ m.nm = true then some { m with st := 4, lo := 128, hi := 191 }
  else if c = 34 then some { m with st := 5, lo := 128, hi := 191 }
  else if c = 92 then some { m with st := 7, lo := 128, hi := 191 }
  else if 32 ≤ c ∧ c < 128 then some { m with lo := 128, hi := 191 }
  else if 194 ≤ c ∧ c < 224 then some { m with lf := 1, lo := 128, hi := 191 }
  else if 224 ≤ c ∧ c < 240 then some { m with lf := 2, lo := lowB c, hi := highB c }
  else if 240 ≤ c ∧ c < 245 then some { m with lf := 3, lo := lowB c, hi := highB c }
  else none
/-- A byte behind a backslash, or a digit behind its u. -/
def escM (m : Mc) (c : Nat) : Option Mc :=
  if m.st = 8 then (if hexN c = true then some { m with lf := m.lf - 1, st := if m.lf = 1 then 6 else 8 } else none)
  else if c = 34 ∨ c = 92 ∨ c = 47 ∨ c = 98 ∨ c = 102 ∨ c = 110 ∨ c = 114 ∨ c = 116 then some { m with st := 6 }
  else if c = 117 then some { m with st := 8, lf := 4 }
  else none
/-- A byte within a number, or behind one. -/
def numM (m : Mc) (c : Nat) : Option Mc :=
  if m.st = 10 ∧ c = 48 then some { m with st := 11 }
  else if m.st = 10 ∧ digN c = true then some { m with st := 12 }
  else if m.st = 10 then none
  else if (m.st = 12 ∨ m.st = 14 ∨ m.st = 17) ∧ digN c = true then some m
  else if (m.st = 11 ∨ m.st = 12) ∧ c = 46 then some { m with st := 13 }
  else if m.st = 13 then (if digN c = true then some { m with st := 14 } else none)
  else if (m.st = 11 ∨ m.st = 12 ∨ m.st = 14) ∧ (c = 101 ∨ c = 69) then some { m with st := 15 }
  else if m.st = 15 ∧ (c = 43 ∨ c = 45) then some { m with st := 16 }
  else if m.st = 15 ∨ m.st = 16 then (if digN c = true then some { m with st := 17 } else none)
  else afterM m c
/-- A byte is taken. -/
def stepM (m : Mc) (c : Nat) : Option Mc :=
  if 10 ≤ m.st then numM m c
  else if m.st = 6 then charM m c
  else if m.st = 7 ∨ m.st = 8 then escM m c
  else if m.st = 9 then (match m.wd with
    | [] => none
    | x :: r => if x = c then some { m with wd := r, st := if r = [] then 5 else 9 } else none)
  else if blankN c = true then some m
  else if m.st = 5 then afterM m c
  else if m.st = 4 then (if c = 58 then some { m with st := 0 } else none)
  else if m.st = 0 then valueM m c
  else if (m.st = 1 ∧ c = 93) ∨ (m.st = 2 ∧ c = 125) then some { m with op := m.op.dropLast, st := 5 }
  else if m.st = 1 then valueM m c
  else if c = 34 then some { m with nm := true, st := 6 } else none
/-- As many bytes as can be taken, and the machine behind them. -/
def runM (m : Mc) : List Nat → Nat × Mc
  | [] => (0, m)
  | x :: l => match stepM m x with
    | none => (0, m)
    | some m' => ((runM m' l).1 + 1, (runM m' l).2)
def wholeM (m : Mc) : Bool := m.op.isEmpty && decide (m.st = 5 ∨ m.st = 11 ∨ m.st = 12 ∨ m.st = 14 ∨ m.st = 17)
end Go.Proofs.YtlckhiflhnlgpaaGreatDoor

/- The machine: what holds of it at all times; and a text that is taken within brackets. -/
namespace Go.Proofs.YtlckhiflhnlgpaaGreatDoor

/-- What holds of the machine at all times. -/
structure Fit (m : Mc) : Prop where
  st : m.st ≤ 17
  lf : m.st ≠ 6 → m.st ≠ 8 → m.lf = 0
  wd : ∀ x ∈ m.wd, 97 ≤ x ∧ x ≤ 122
  s1 : m.st = 1 → topN m = 91
  s2 : m.st = 2 ∨ m.st = 3 ∨ m.st = 4 → topN m = 123
  s6 : (m.st = 6 ∨ m.st = 7 ∨ m.st = 8) → m.nm = true → topN m = 123

theorem fit0 : Fit mc0 := ⟨by decide, fun _ _ => rfl, (by simp [mc0]), (by simp [mc0]), (by simp [mc0]), (by simp [mc0])⟩

theorem value_fit {m m' : Mc} {c : Nat} (f : Fit m) (h0 : m.lf = 0) (h : valueM m c = some m') : Fit m' := by
  unfold valueM at h
  repeat' split at h
  all_goals first
    | (cases h; done)
    | (injection h with h; subst h
       refine ⟨by simp, by simp [h0], ?_, ?_, ?_, ?_⟩ <;> first
        | (intro x hx; exact f.wd x hx)
        | (simp [topN]; done)
        | (simp; done))

theorem after_fit {m m' : Mc} {c : Nat} (f : Fit m) (h0 : m.lf = 0) (h : afterM m c = some m') : Fit m' := by
  unfold afterM at h
  repeat' split at h
  all_goals first
    | (cases h; done)
    | (injection h with h; subst h
       refine ⟨by simp, by simp [h0], fun x hx => f.wd x hx, by simp, ?_, by simp⟩ <;> first
        | (simp; done)
        | (rename_i hc; intro _; exact hc.2))

theorem char_fit {m m' : Mc} {c : Nat} (f : Fit m) (hs : m.st = 6) (h : charM m c = some m') : Fit m' := by
  unfold charM at h
  have hn := f.s6 (Or.inl hs)
  repeat' split at h
  all_goals first
    | (cases h; done)
    | (injection h with h; subst h
       refine ⟨by simp [hs], ?_, fun x hx => f.wd x hx, by simp [hs], ?_, ?_⟩ <;> first
        | (simp [hs]; done)
        | (intro _ _; simp at *; omega)
        | (intro _ hh; exact hn hh)
        | (intro _; exact hn (by simp_all)))

theorem esc_fit {m m' : Mc} {c : Nat} (f : Fit m) (hs : m.st = 7 ∨ m.st = 8) (h : escM m c = some m') : Fit m' := by
  unfold escM at h
  have hn := f.s6 (Or.inr hs)
  have h7 : m.st = 7 → m.lf = 0 := fun h => f.lf (by omega) (by omega)
  repeat' split at h
  all_goals first
    | (cases h; done)
    | (injection h with h; subst h
       refine ⟨?_, ?_, fun x hx => f.wd x hx, ?_, ?_, ?_⟩ <;> first
        | (intro _ hh; exact hn hh)
        | (simp; done)
        | (simp; split <;> simp; done)
        | (simp; split <;> omega))

theorem num_fit {m m' : Mc} {c : Nat} (f : Fit m) (hs : 10 ≤ m.st) (h : numM m c = some m') : Fit m' := by
  unfold numM at h
  have h0 : m.lf = 0 := f.lf (by omega) (by omega)
  repeat' split at h
  all_goals first
    | (cases h; done)
    | (exact after_fit f h0 h)
    | (injection h with h; subst h; exact f)
    | (injection h with h; subst h
       exact ⟨by simp, by simp [h0], fun x hx => f.wd x hx, by simp, by simp, by simp⟩)

theorem step_fit {m m' : Mc} {c : Nat} (f : Fit m) (h : stepM m c = some m') : Fit m' := by
  unfold stepM at h
  split at h
  · exact num_fit f (by assumption) h
  split at h
  · exact char_fit f (by assumption) h
  split at h
  · exact esc_fit f (by assumption) h
  have h0 : m.lf = 0 := f.lf (by omega) (by omega)
  split at h
  · split at h
    · exact absurd h (by simp)
    · rename_i x r hw
      split at h
      · injection h with h; subst h
        refine ⟨?_, by simp [h0], fun y hy => f.wd y (by rw [hw]; exact List.mem_cons_of_mem _ hy), ?_, ?_, ?_⟩ <;> (simp; split <;> simp)
      · exact absurd h (by simp)
  split at h
  · injection h with h; subst h; exact f
  split at h
  · exact after_fit f h0 h
  split at h
  · split at h
    · injection h with h; subst h
      exact ⟨by simp, by simp [h0], fun x hx => f.wd x hx, by simp, by simp, by simp⟩
    · exact absurd h (by simp)
  split at h
  · exact value_fit f h0 h
  split at h
  · injection h with h; subst h
    exact ⟨by simp, by simp [h0], fun x hx => f.wd x hx, by simp, by simp, by simp⟩
  split at h
  · exact value_fit f h0 h
  split at h
  · injection h with h; subst h
    have hst := f.st
    refine ⟨by simp, by simp [h0], fun x hx => f.wd x hx, by simp, by simp, fun _ _ => ?_⟩
    exact f.s2 (by omega)
  · exact absurd h (by simp)

/-- All bytes of a list are taken. -/
def takeM (m : Mc) : List Nat → Option Mc
  | [] => some m
  | x :: l => match stepM m x with
    | none => none
    | some m' => takeM m' l

theorem takeM_cons {m m1 : Mc} {x : Nat} {l : List Nat} (h : stepM m x = some m1) : takeM m (x :: l) = takeM m1 l := by
  simp [takeM, h]

theorem takeM_app (m : Mc) (a b : List Nat) : takeM m (a ++ b) = (takeM m a).bind (fun k => takeM k b) := by
  induction a generalizing m with
  | nil => rfl
  | cons x a ih =>
    simp only [List.cons_append, takeM]
    cases stepM m x with
    | none => rfl
    | some k => exact ih k

theorem take_fit {m m' : Mc} {l : List Nat} (f : Fit m) (h : takeM m l = some m') : Fit m' := by
  induction l generalizing m with
  | nil => simp [takeM] at h; subst h; exact f
  | cons x l ih =>
    simp only [takeM] at h
    cases hs : stepM m x with
    | none => rw [hs] at h; exact absurd h (by simp)
    | some k => rw [hs] at h; exact ih (step_fit f hs) h

theorem run_take (m : Mc) (l : List Nat) : ((runM m l).1 = l.length ↔ (takeM m l).isSome = true) ∧ (∀ m', takeM m l = some m' → (runM m l).2 = m') ∧ (runM m l).1 ≤ l.length := by
  induction l generalizing m with
  | nil => simp [runM, takeM]
  | cons x l ih =>
    simp only [runM, takeM]
    cases hs : stepM m x with
    | none => simp
    | some k =>
      have := ih k
      simp only [List.length_cons]
      refine ⟨?_, this.2.1, by omega⟩
      rw [← this.1]; omega

/-- A document. -/
def docM (l : List Nat) : Prop := ∃ m, takeM mc0 l = some m ∧ wholeM m = true

end Go.Proofs.YtlckhiflhnlgpaaGreatDoor

/- The machine within brackets takes what the machine alone takes. -/
namespace Go.Proofs.YtlckhiflhnlgpaaGreatDoor

theorem op_ne {m : Mc} (h : topN m ≠ 0) : m.op ≠ [] := by
  intro e; exact h (by simp [topN, e])

end Go.Proofs.YtlckhiflhnlgpaaGreatDoor

/- Documents with blanks and brackets around them. -/
namespace Go.Proofs.YtlckhiflhnlgpaaGreatDoor

theorem whole_parts {m : Mc} (h : wholeM m = true) : m.op = [] ∧ (m.st = 5 ∨ m.st = 11 ∨ m.st = 12 ∨ m.st = 14 ∨ m.st = 17) := by
  simpa [wholeM] using h

theorem whole_of {m : Mc} (h : m.op = []) (hs : m.st = 5 ∨ m.st = 11 ∨ m.st = 12 ∨ m.st = 14 ∨ m.st = 17) : wholeM m = true := by
  simp [wholeM, h, hs]

/-- Behind a value: a byte that is no digit, point or e. -/
theorem step_behind {m : Mc} {c : Nat} (hs : m.st = 5 ∨ m.st = 11 ∨ m.st = 12 ∨ m.st = 14 ∨ m.st = 17)
    (hd : digN c = false) (h1 : c ≠ 46) (h2 : c ≠ 101) (h3 : c ≠ 69) : stepM m c = afterM m c := by
  have hb : ¬ (digN c = true) := by simp [hd]
  unfold stepM
  by_cases h10 : 10 ≤ m.st
  · rw [if_pos h10]
    unfold numM
    rw [if_neg (by omega), if_neg (by omega), if_neg (by omega), if_neg (fun h => hb h.2), if_neg (by omega), if_neg (by omega), if_neg (by omega), if_neg (by omega), if_neg (by omega)]
  · rw [if_neg h10, if_neg (by omega), if_neg (by omega), if_neg (by omega)]
    by_cases h5 : blankN c = true
    · rw [if_pos h5]
      unfold afterM
      rw [if_pos h5]
      have : m.st = 5 := by omega
      rw [← this]
    · rw [if_neg h5, if_pos (by omega)]

/-- As many brackets as are open at most on the way. -/
def mostM (m : Mc) : List Nat → Nat
  | [] => m.op.length
  | x :: l => match stepM m x with
    | none => m.op.length
    | some k => max m.op.length (mostM k l)

theorem most_cons {m k : Mc} {x : Nat} {l : List Nat} (h : stepM m x = some k) : mostM m (x :: l) = max m.op.length (mostM k l) := by
  simp [mostM, h]

theorem most_le (m : Mc) (l : List Nat) : m.op.length ≤ mostM m l := by
  cases l with
  | nil => exact Nat.le_refl _
  | cons x l => simp only [mostM]; cases stepM m x <;> simp <;> omega

theorem most_app {m k : Mc} {a b : List Nat} (h : takeM m a = some k) : mostM m (a ++ b) = max (mostM m a) (mostM k b) := by
  induction a generalizing m with
  | nil =>
    simp only [takeM] at h; injection h with h; subst h
    have := most_le m b
    simp only [List.nil_append, mostM]; omega
  | cons x a ih =>
    simp only [takeM] at h
    cases hs : stepM m x with
    | none => rw [hs] at h; cases h
    | some q =>
      rw [hs] at h
      rw [List.cons_append, most_cons hs, most_cons hs, ih h]; omega

/-- A closing bracket, or a comma, behind it. -/
theorem shut {k : Mc} {a c : Nat} (ho : k.op = [a]) (hs : k.st = 5 ∨ k.st = 11 ∨ k.st = 12 ∨ k.st = 14 ∨ k.st = 17)
    (hc : (a = 91 ∧ c = 93) ∨ (a = 123 ∧ c = 125)) : ∃ q, takeM k [c] = some q ∧ wholeM q = true ∧ mostM k [c] = 1 := by
  have ht : topN k = a := by simp [topN, ho]
  have e : stepM k c = some { k with st := 5, op := k.op.dropLast } := by
    rw [step_behind hs (by simp only [digN, decide_eq_false_iff_not]; omega) (by omega) (by omega) (by omega)]
    unfold afterM
    rw [if_neg (by simp only [blankN, decide_eq_true_eq]; omega), if_neg (by omega), if_neg (by omega), if_pos (by rw [ht]; omega)]
  refine ⟨_, takeM_cons e, whole_of (by simp [ho]) (Or.inl rfl), ?_⟩
  rw [most_cons e]
  simp [mostM, ho]

end Go.Proofs.YtlckhiflhnlgpaaGreatDoor

/- A beginning of a document can be brought to its end. -/
namespace Go.Proofs.YtlckhiflhnlgpaaGreatDoor

/-- What else holds of the machine at all times. -/
structure Fit2 (m : Mc) : Prop where
  op : ∀ x ∈ m.op, x = 91 ∨ x = 123
  l8 : m.st = 8 → 1 ≤ m.lf
  l6 : m.st = 6 → 0 < m.lf → m.lo ≤ m.hi
  w9 : m.st = 9 → m.wd ≠ []

theorem fit20 : Fit2 mc0 := ⟨by simp [mc0], by simp [mc0], by simp [mc0], by simp [mc0]⟩

theorem value_fit2 {m m' : Mc} {c : Nat} (f : Fit2 m) (h0 : m.lf = 0) (h : valueM m c = some m') : Fit2 m' := by
  unfold valueM at h
  repeat' split at h
  all_goals first
    | (cases h; done)
    | (injection h with h; subst h
       refine ⟨?_, by simp, by simp [h0], by simp⟩
       intro x hx
       simp only [List.mem_append, List.mem_singleton] at hx
       rcases hx with hx | hx
       · exact f.op x hx
       · omega)
    | (injection h with h; subst h
       exact ⟨fun x hx => f.op x hx, by simp, by simp [h0], by simp⟩)

theorem after_fit2 {m m' : Mc} {c : Nat} (f : Fit2 m) (h : afterM m c = some m') : Fit2 m' := by
  unfold afterM at h
  repeat' split at h
  all_goals first
    | (cases h; done)
    | (injection h with h; subst h
       exact ⟨fun x hx => f.op x ((List.dropLast_sublist _).mem hx), by simp, by simp, by simp⟩)
    | (injection h with h; subst h
       exact ⟨fun x hx => f.op x hx, by simp, by simp, by simp⟩)

theorem low_high (c : Nat) : lowB c ≤ highB c := by
  unfold lowB highB
  repeat' split
  all_goals omega

theorem char_fit2 {m m' : Mc} {c : Nat} (f : Fit2 m) (hs : m.st = 6) (h : charM m c = some m') : Fit2 m' := by
  unfold charM at h
  have hb := low_high c
  repeat' split at h
  all_goals first
    | (cases h; done)
    | (injection h with h; subst h
       refine ⟨fun x hx => f.op x hx, by simp [hs], ?_, by simp [hs]⟩
       intro _ _
       simp only
       omega)

theorem esc_fit2 {m m' : Mc} {c : Nat} (f : Fit2 m) (g : Fit m) (hs : m.st = 7 ∨ m.st = 8) (h : escM m c = some m') : Fit2 m' := by
  unfold escM at h
  have h7 : m.st = 7 → m.lf = 0 := fun h => g.lf (by omega) (by omega)
  have h8 := f.l8
  by_cases e : m.st = 8
  · rw [if_pos e] at h
    by_cases e2 : hexN c = true
    · rw [if_pos e2] at h
      injection h with h; subst h
      have := h8 e
      refine ⟨fun x hx => f.op x hx, ?_, ?_, ?_⟩ <;> (simp only; split <;> omega)
    · rw [if_neg e2] at h; cases h
  · rw [if_neg e] at h
    have := h7 (by omega)
    repeat' split at h
    all_goals first
      | (cases h; done)
      | (injection h with h; subst h
         refine ⟨fun x hx => f.op x hx, ?_, ?_, ?_⟩ <;> (simp only; omega))

theorem num_fit2 {m m' : Mc} {c : Nat} (f : Fit2 m) (h : numM m c = some m') : Fit2 m' := by
  unfold numM at h
  repeat' split at h
  all_goals first
    | (cases h; done)
    | (exact after_fit2 f h)
    | (injection h with h; subst h; exact f)
    | (injection h with h; subst h
       exact ⟨fun x hx => f.op x hx, by simp, by simp, by simp⟩)

theorem step_fit2 {m m' : Mc} {c : Nat} (f : Fit2 m) (g : Fit m) (h : stepM m c = some m') : Fit2 m' := by
  unfold stepM at h
  by_cases h1 : 10 ≤ m.st
  · rw [if_pos h1] at h; exact num_fit2 f h
  rw [if_neg h1] at h
  by_cases h2 : m.st = 6
  · rw [if_pos h2] at h; exact char_fit2 f h2 h
  rw [if_neg h2] at h
  by_cases h3 : m.st = 7 ∨ m.st = 8
  · rw [if_pos h3] at h; exact esc_fit2 f g h3 h
  rw [if_neg h3] at h
  have h0 : m.lf = 0 := g.lf (by omega) (by omega)
  by_cases h4 : m.st = 9
  · rw [if_pos h4] at h
    cases hw : m.wd with
    | nil => rw [hw] at h; cases h
    | cons x r =>
      rw [hw] at h
      simp only at h
      by_cases h5 : x = c
      · rw [if_pos h5] at h
        injection h with h; subst h
        refine ⟨fun x hx => f.op x hx, ?_, ?_, ?_⟩
        · simp only; split <;> omega
        · simp only; split <;> omega
        · intro h hr
          simp only at h hr
          rw [if_pos hr] at h; omega
      · rw [if_neg h5] at h; cases h
  rw [if_neg h4] at h
  by_cases h5 : blankN c = true
  · rw [if_pos h5] at h; injection h with h; subst h; exact f
  rw [if_neg h5] at h
  by_cases h6 : m.st = 5
  · rw [if_pos h6] at h; exact after_fit2 f h
  rw [if_neg h6] at h
  by_cases h7 : m.st = 4
  · rw [if_pos h7] at h
    by_cases h8 : c = 58
    · rw [if_pos h8] at h; injection h with h; subst h
      exact ⟨fun x hx => f.op x hx, by simp, by simp, by simp⟩
    · rw [if_neg h8] at h; cases h
  rw [if_neg h7] at h
  by_cases h8 : m.st = 0
  · rw [if_pos h8] at h; exact value_fit2 f h0 h
  rw [if_neg h8] at h
  by_cases h9 : (m.st = 1 ∧ c = 93) ∨ (m.st = 2 ∧ c = 125)
  · rw [if_pos h9] at h; injection h with h; subst h
    exact ⟨fun x hx => f.op x ((List.dropLast_sublist _).mem hx), by simp, by simp, by simp⟩
  rw [if_neg h9] at h
  by_cases h10 : m.st = 1
  · rw [if_pos h10] at h; exact value_fit2 f h0 h
  rw [if_neg h10] at h
  by_cases h11 : c = 34
  · rw [if_pos h11] at h; injection h with h; subst h
    exact ⟨fun x hx => f.op x hx, by simp, by simp [h0], by simp⟩
  · rw [if_neg h11] at h; cases h

theorem take_fit2 {m m' : Mc} {l : List Nat} (f : Fit2 m) (g : Fit m) (h : takeM m l = some m') : Fit2 m' := by
  induction l generalizing m with
  | nil => simp only [takeM] at h; injection h with h; subst h; exact f
  | cons x l ih =>
    simp only [takeM] at h
    cases hs : stepM m x with
    | none => rw [hs] at h; cases h
    | some k => rw [hs] at h; exact ih (step_fit2 f g hs) (step_fit g hs) h

/-- The brackets that close those which are open. -/
def shutsL (l : List Nat) : List Nat := l.reverse.map (· + 2)

theorem shuts_app (l : List Nat) (a : Nat) : shutsL (l ++ [a]) = (a + 2) :: shutsL l := by
  simp [shutsL]

theorem shut_one {k : Mc} {l : List Nat} {a : Nat} (ho : k.op = l ++ [a]) (ha : a = 91 ∨ a = 123)
    (hs : k.st = 5 ∨ k.st = 11 ∨ k.st = 12 ∨ k.st = 14 ∨ k.st = 17) : stepM k (a + 2) = some { k with st := 5, op := l } := by
  have ht : topN k = a := by simp [topN, ho]
  rw [step_behind hs (by simp only [digN, decide_eq_false_iff_not]; omega) (by omega) (by omega) (by omega)]
  unfold afterM
  rw [if_neg (by simp only [blankN, decide_eq_true_eq]; omega), if_neg (by omega), if_neg (by omega), if_pos (by rw [ht]; omega), ho, List.dropLast_concat]

theorem shut_all (n : Nat) {k : Mc} (hn : k.op.length = n) (ha : ∀ x ∈ k.op, x = 91 ∨ x = 123)
    (hs : k.st = 5 ∨ k.st = 11 ∨ k.st = 12 ∨ k.st = 14 ∨ k.st = 17) : ∃ q, takeM k (shutsL k.op) = some q ∧ wholeM q = true := by
  induction n generalizing k with
  | zero =>
    have ho := List.length_eq_zero_iff.mp hn
    rw [ho]
    exact ⟨k, rfl, whole_of ho hs⟩
  | succ n ih =>
    have hne : k.op ≠ [] := by intro e; rw [e] at hn; simp at hn
    have ho : k.op = k.op.dropLast ++ [k.op.getLast hne] := (List.dropLast_concat_getLast hne).symm
    have h1 := shut_one ho (ha _ (List.getLast_mem hne)) hs
    obtain ⟨q, e, hq⟩ := ih (k := { k with st := 5, op := k.op.dropLast }) (by simp; omega)
      (fun x hx => ha x ((List.dropLast_sublist _).mem hx)) (Or.inl rfl)
    refine ⟨q, ?_, hq⟩
    rw [ho, shuts_app]
    rw [takeM_cons h1]
    exact e

/-- The end of a text. -/
def textE (m : Mc) : List Nat :=
  (if m.st = 7 then [110] else []) ++
    (if m.st = 8 then List.replicate m.lf 48 else if m.lf = 0 then [] else m.lo :: List.replicate (m.lf - 1) 128) ++
    (if m.nm = true then [34, 58, 48] else [34])

/-- The end of a document. -/
def finM (m : Mc) : List Nat :=
  if m.st = 0 ∨ m.st = 10 ∨ m.st = 13 ∨ m.st = 15 ∨ m.st = 16 then [48] ++ shutsL m.op
  else if m.st = 1 then [93] ++ shutsL m.op.dropLast
  else if m.st = 2 then [125] ++ shutsL m.op.dropLast
  else if m.st = 3 then [34, 34, 58, 48] ++ shutsL m.op
  else if m.st = 4 then [58, 48] ++ shutsL m.op
  else if m.st = 9 then m.wd ++ shutsL m.op
  else if m.st = 6 ∨ m.st = 7 ∨ m.st = 8 then textE m ++ shutsL m.op
  else shutsL m.op

/-- What can be taken from here on ends a value, with the same brackets open. -/
def Ends (m : Mc) (l : List Nat) : Prop :=
  ∃ k, takeM m l = some k ∧ k.op = m.op ∧ (k.st = 5 ∨ k.st = 11 ∨ k.st = 12 ∨ k.st = 14 ∨ k.st = 17)

theorem ends_step {m k : Mc} {c : Nat} {l : List Nat} (h : stepM m c = some k) (ho : k.op = m.op) (e : Ends k l) : Ends m (c :: l) := by
  obtain ⟨q, e1, e2, e3⟩ := e
  exact ⟨q, by rw [takeM_cons h]; exact e1, by rw [e2, ho], e3⟩

theorem ends_nil {m : Mc} (hs : m.st = 5 ∨ m.st = 11 ∨ m.st = 12 ∨ m.st = 14 ∨ m.st = 17) : Ends m [] := ⟨m, rfl, rfl, hs⟩

theorem ends_shut {m : Mc} {l : List Nat} (f : Fit2 m) (e : Ends m l) : ∃ q, takeM m (l ++ shutsL m.op) = some q ∧ wholeM q = true := by
  obtain ⟨k, e1, e2, e3⟩ := e
  obtain ⟨q, h, hq⟩ := shut_all _ rfl (by rw [e2]; exact f.op) e3
  refine ⟨q, ?_, hq⟩
  rw [takeM_app, e1, ← e2]
  exact h

theorem ends0 {m : Mc} (h : m.st = 0 ∨ m.st = 10 ∨ m.st = 13 ∨ m.st = 15 ∨ m.st = 16) : Ends m [48] := by
  rcases h with h | h | h | h | h
  · exact ends_step (k := { m with nm := false, st := 11 }) (by simp [stepM, h, blankN, valueM]) rfl (ends_nil (by simp))
  · exact ends_step (k := { m with st := 11 }) (by simp [stepM, h, numM]) rfl (ends_nil (by simp))
  · exact ends_step (k := { m with st := 14 }) (by simp [stepM, h, numM, digN]) rfl (ends_nil (by simp))
  · exact ends_step (k := { m with st := 17 }) (by simp [stepM, h, numM, digN]) rfl (ends_nil (by simp))
  · exact ends_step (k := { m with st := 17 }) (by simp [stepM, h, numM, digN]) rfl (ends_nil (by simp))

theorem ends4 {m : Mc} (h : m.st = 4) : Ends m [58, 48] :=
  ends_step (k := { m with st := 0 }) (by simp [stepM, h, blankN]) rfl (ends0 (Or.inl rfl))

/-- A quote that ends a text. -/
theorem ends6 {m : Mc} (h : m.st = 6) (hl : m.lf = 0) : Ends m (if m.nm = true then [34, 58, 48] else [34]) := by
  by_cases hn : m.nm = true
  · rw [if_pos hn]
    exact ends_step (k := { m with st := 4, lo := 128, hi := 191 }) (by simp [stepM, h, charM, hl, hn]) rfl (ends4 rfl)
  · rw [if_neg hn]
    exact ends_step (k := { m with st := 5, lo := 128, hi := 191 }) (by simp [stepM, h, charM, hl, hn]) rfl (ends_nil (by simp))

theorem ends3 {m : Mc} (h : m.st = 3) (hl : m.lf = 0) : Ends m [34, 34, 58, 48] :=
  ends_step (k := { m with nm := true, st := 6 }) (by simp [stepM, h, blankN]) rfl (by
    have := ends6 (m := { m with nm := true, st := 6 }) rfl hl
    simpa using this)

theorem ends9 (l : List Nat) {m : Mc} (h : m.st = 9) (hw : m.wd = l) (hn : l ≠ []) : Ends m l := by
  induction l generalizing m with
  | nil => exact absurd rfl hn
  | cons x r ih =>
    have e : stepM m x = some { m with wd := r, st := if r = [] then 5 else 9 } := by
      unfold stepM
      rw [if_neg (by omega), if_neg (by omega), if_neg (by omega), if_pos h, hw]
      simp
    by_cases hr : r = []
    · refine ends_step e rfl ?_
      rw [hr]
      exact ends_nil (by simp)
    · refine ends_step e rfl (ih ?_ rfl hr)
      simp [hr]

theorem ends8 (n : Nat) {m : Mc} {t : List Nat} (h : m.st = 8) (hl : m.lf = n + 1)
    (ht : Ends { m with st := 6, lf := 0 } t) : Ends m (List.replicate (n + 1) 48 ++ t) := by
  induction n generalizing m with
  | zero =>
    exact ends_step (k := { m with st := 6, lf := 0 }) (by simp [stepM, h, escM, hexN, hl]) rfl ht
  | succ n ih =>
    rw [List.replicate_succ, List.cons_append]
    refine ends_step (k := { m with st := 8, lf := n + 1 }) (by simp [stepM, h, escM, hexN, hl]) rfl (ih rfl rfl ?_)
    exact ht

theorem endsR (n : Nat) {m : Mc} {t : List Nat} (h : m.st = 6) (hl : m.lf = n) (h1 : m.lo = 128) (h2 : m.hi = 191)
    (ht : Ends { m with lf := 0 } t) : Ends m (List.replicate n 128 ++ t) := by
  induction n generalizing m with
  | zero =>
    have : m = { m with lf := 0 } := by rw [← hl]
    rw [this]; exact ht
  | succ n ih =>
    rw [List.replicate_succ, List.cons_append]
    refine ends_step (k := { m with lf := n, lo := 128, hi := 191 }) (by simp [stepM, h, charM, hl, h1, h2]) rfl (ih h rfl rfl rfl ?_)
    simpa [h1, h2] using (by rw [← h1, ← h2]; exact ht : Ends { m with lf := 0, lo := 128, hi := 191 } t)

theorem ends_text {m : Mc} (f : Fit m) (g : Fit2 m) (h : m.st = 6 ∨ m.st = 7 ∨ m.st = 8) : Ends m (textE m) := by
  unfold textE
  rcases h with h | h | h
  · rw [if_neg (by omega), if_neg (by omega), List.nil_append]
    by_cases hl : m.lf = 0
    · rw [if_pos hl, List.nil_append]; exact ends6 h hl
    · rw [if_neg hl, List.cons_append]
      have hb := g.l6 h (by omega)
      refine ends_step (k := { m with lf := m.lf - 1, lo := 128, hi := 191 }) ?_ rfl (endsR (m.lf - 1) h rfl rfl rfl ?_)
      · unfold stepM
        rw [if_neg (by omega), if_pos h]
        unfold charM
        rw [if_pos (by omega), if_neg (by omega)]
      · exact ends6 (m := { m with lf := 0, lo := 128, hi := 191 }) h rfl
  · have hl := f.lf (by omega) (by omega)
    rw [if_pos h, if_neg (by omega), if_pos hl, List.append_nil]
    exact ends_step (k := { m with st := 6 }) (by simp [stepM, h, escM]) rfl (ends6 (m := { m with st := 6 }) rfl hl)
  · rw [if_neg (by omega), if_pos h, List.nil_append]
    obtain ⟨n, hn⟩ : ∃ n, m.lf = n + 1 := ⟨m.lf - 1, by have := g.l8 h; omega⟩
    rw [hn]
    exact ends8 n h hn (ends6 (m := { m with st := 6, lf := 0 }) rfl rfl)

/-- The stage's theorem, its first half: what was taken can be brought to its end. -/
theorem fin_whole {m : Mc} (f : Fit m) (g : Fit2 m) : ∃ q, takeM m (finM m) = some q ∧ wholeM q = true := by
  unfold finM
  by_cases h1 : m.st = 0 ∨ m.st = 10 ∨ m.st = 13 ∨ m.st = 15 ∨ m.st = 16
  · rw [if_pos h1]; exact ends_shut g (ends0 h1)
  rw [if_neg h1]
  by_cases h2 : m.st = 1
  · rw [if_pos h2]
    have e : stepM m 93 = some { m with op := m.op.dropLast, st := 5 } := by simp [stepM, h2, blankN]
    obtain ⟨q, hq, hw⟩ := ends_shut (m := { m with op := m.op.dropLast, st := 5 }) (l := []) (step_fit2 g f e) (ends_nil (Or.inl rfl))
    exact ⟨q, by rw [List.singleton_append, takeM_cons e]; exact hq, hw⟩
  rw [if_neg h2]
  by_cases h3 : m.st = 2
  · rw [if_pos h3]
    have e : stepM m 125 = some { m with op := m.op.dropLast, st := 5 } := by simp [stepM, h3, blankN]
    obtain ⟨q, hq, hw⟩ := ends_shut (m := { m with op := m.op.dropLast, st := 5 }) (l := []) (step_fit2 g f e) (ends_nil (Or.inl rfl))
    exact ⟨q, by rw [List.singleton_append, takeM_cons e]; exact hq, hw⟩
  rw [if_neg h3]
  by_cases h4 : m.st = 3
  · rw [if_pos h4]; exact ends_shut g (ends3 h4 (f.lf (by omega) (by omega)))
  rw [if_neg h4]
  by_cases h5 : m.st = 4
  · rw [if_pos h5]; exact ends_shut g (ends4 h5)
  rw [if_neg h5]
  by_cases h6 : m.st = 9
  · rw [if_pos h6]; exact ends_shut g (ends9 _ h6 rfl (g.w9 h6))
  rw [if_neg h6]
  by_cases h7 : m.st = 6 ∨ m.st = 7 ∨ m.st = 8
  · rw [if_pos h7]; exact ends_shut g (ends_text f g h7)
  rw [if_neg h7]
  have := f.st
  have := ends_shut g (ends_nil (m := m) (by omega))
  simpa using this

/-- The bytes that were taken, and the machine behind them. -/
theorem run_parts (m : Mc) (l : List Nat) : takeM m (l.take (runM m l).1) = some (runM m l).2 := by
  induction l generalizing m with
  | nil => rfl
  | cons x l ih =>
    simp only [runM]
    cases hs : stepM m x with
    | none => rfl
    | some k =>
      simp only [List.take_succ_cons]
      rw [takeM_cons hs]; exact ih k

/-- The byte that can't be taken. -/
theorem run_stop (m : Mc) (l t : List Nat) (h : (runM m l).1 < l.length) : (runM m (l.take ((runM m l).1 + 1) ++ t)).1 = (runM m l).1 := by
  induction l generalizing m with
  | nil => simp [runM] at h
  | cons x l ih =>
    cases hs : stepM m x with
    | none => simp [runM, hs]
    | some k =>
      have e1 : (runM m (x :: l)).1 = (runM k l).1 + 1 := by simp [runM, hs]
      rw [e1] at h ⊢
      simp only [List.length_cons] at h
      have := ih k (by omega)
      rw [List.take_succ_cons, List.cons_append]
      simp only [runM, hs]
      omega

/-- Up to the byte that can't be taken, with what brings it to its end: a document. -/
theorem begins_doc (l : List Nat) : docM (l.take (runM mc0 l).1 ++ finM (runM mc0 l).2) := by
  have h := run_parts mc0 l
  obtain ⟨q, e, hq⟩ := fin_whole (take_fit fit0 h) (take_fit2 fit20 fit0 h)
  exact ⟨q, by rw [takeM_app, h]; exact e, hq⟩

theorem char_keeps {m k : Mc} {c : Nat} (h : charM m c = some k) : k.op = m.op ∧ k.wd = m.wd := by
  unfold charM at h
  repeat' split at h
  all_goals first
    | (cases h; done)
    | (injection h with h; subst h; exact ⟨rfl, rfl⟩)
theorem esc_keeps {m k : Mc} {c : Nat} (h : escM m c = some k) : k.op = m.op ∧ k.wd = m.wd := by
  unfold escM at h
  repeat' split at h
  all_goals first
    | (cases h; done)
    | (injection h with h; subst h; exact ⟨rfl, rfl⟩)
end Go.Proofs.YtlckhiflhnlgpaaGreatDoor
