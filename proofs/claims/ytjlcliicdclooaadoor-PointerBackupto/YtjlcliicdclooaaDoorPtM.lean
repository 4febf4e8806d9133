/-
 Pointers as lists of bytes: what a name means, how it is written; one behind the other.
-/
import Derived.Below
namespace Go.Proofs.YtjlcliicdclooaaDoor
/-- What a raw name means. -/
def mnL : List UInt8 → Option (List UInt8)
 | [] => some []
 | c :: t =>
  if c = 126 then
   match t with
   | [] => none
   | d :: t' => if d = 48 then (mnL t').map (126 :: ·) else if d = 49 then (mnL t').map (47 :: ·) else none
  else (mnL t).map (c :: ·)
/-- A text, cut at its /s. -/
def cuL : List UInt8 → List (List UInt8)
 | [] => [[]]
 | c :: t => if c = 47 then [] :: cuL t else
  match cuL t with
  | a :: r => (c :: a) :: r
  | [] => [[c]]
theorem cuL_ne : ∀ l : List UInt8, ∃ a r, cuL l = a :: r
 | [] => ⟨_, _, rfl⟩
 | c :: t => by
  obtain ⟨a, r, h⟩ := cuL_ne t
  unfold cuL
  by_cases hc : c = 47
  ·exact ⟨_, _, if_pos hc⟩
  ·rw [if_neg hc, h]; exact ⟨_, _, rfl⟩
theorem cuL_sl (t : List UInt8) : cuL (47 :: t) = [] :: cuL t := by rw [cuL, if_pos rfl]
theorem cuL_on {c : UInt8} (hc : c ≠ 47) {t a : List UInt8} {r : List (List UInt8)} (h : cuL t = a :: r) : cuL (c :: t) = (c :: a) :: r := by rw [cuL, if_neg hc, h]
/-- The meanings of raw names, if all have one. -/
def mnAll : List (List UInt8) → Option (List (List UInt8))
 | [] => some []
 | a :: r => match mnL a, mnAll r with
  | some x, some y => some (x :: y)
  | _, _ => none
/-- The names of a pointer. -/
def ptrL : List UInt8 → Option (List (List UInt8))
 | [] => some []
 | c :: t => if c = 47 then mnAll (cuL t) else none
theorem mnL_plain {c : UInt8} (hc : c ≠ 126) (t : List UInt8) : mnL (c :: t) = (mnL t).map (c :: ·) := by rw [mnL.eq_def]; simp only [hc, if_false]
theorem mnL_none : mnL [126] = none := by rw [mnL.eq_def]; rfl
theorem mnL_til (d : UInt8) (t : List UInt8) : mnL (126 :: d :: t) = if d = 48 then (mnL t).map (126 :: ·) else if d = 49 then (mnL t).map (47 :: ·) else none := by rw [mnL.eq_def]; rfl
/-- The last name goes on. -/
def addN (out : List (List UInt8)) (c : UInt8) : List (List UInt8) := out.dropLast ++ [out.getLastD [] ++ [c]]
theorem addN_on (out : List (List UInt8)) (a : List UInt8) (c : UInt8) : addN (out ++ [a]) c = out ++ [a ++ [c]] := by simp [addN]
/-- From the left to the right. -/
def rfL : List (List UInt8) → List UInt8 → Option (List (List UInt8))
 | out, [] => some out
 | out, c :: t =>
  if c = 47 then rfL (out ++ [[]]) t
  else if c = 126 then
   match t with
   | [] => none
   | d :: t' => if d = 48 then rfL (addN out 126) t' else if d = 49 then rfL (addN out 47) t' else none
  else rfL (addN out c) t
theorem rfL_sl (out : List (List UInt8)) (t : List UInt8) : rfL out (47 :: t) = rfL (out ++ [[]]) t := by rw [rfL.eq_def]; rfl
theorem rfL_plain {c : UInt8} (h1 : c ≠ 47) (h2 : c ≠ 126) (out : List (List UInt8)) (t : List UInt8) : rfL out (c :: t) = rfL (addN out c) t := by rw [rfL.eq_def]; simp only [h1, h2, if_false]
theorem rfL_none (out : List (List UInt8)) : rfL out [126] = none := by rw [rfL.eq_def]; rfl
theorem rfL_til (out : List (List UInt8)) (d : UInt8) (t : List UInt8) : rfL out (126 :: d :: t) = if d = 48 then rfL (addN out 126) t else if d = 49 then rfL (addN out 47) t else none := by rw [rfL.eq_def]; rfl
def joinN (out : List (List UInt8)) (a : List UInt8) : List (List UInt8) → List (List UInt8)
 | [] => out ++ [a]
 | x :: r => out ++ (a ++ x) :: r
theorem rfL_on : ∀ (n : Nat) (l : List UInt8), l.length ≤ n → ∀ (out : List (List UInt8)) (a : List UInt8), rfL (out ++ [a]) l = (mnAll (cuL l)).map (joinN out a) := by
 intro n
 induction n with
 | zero =>
  intro l hl out a
  obtain rfl : l = [] := List.length_eq_zero_iff.1 (by omega)
  rw [rfL]
  simp [cuL, mnAll, mnL, joinN]
 | succ n ih =>
  intro l hl out a
  cases l with
  | nil => rw [rfL]; simp [cuL, mnAll, mnL, joinN]
  | cons c t =>
   have ht : t.length ≤ n := by simp at hl; omega
   by_cases hc : c = 47
   ·subst hc
    rw [rfL_sl, ih t ht (out ++ [a]) [], cuL_sl]
    obtain ⟨x, r, hx⟩ := cuL_ne t
    rw [hx, show mnAll ([] :: x :: r) = (mnAll (x :: r)).map ([] :: ·) by
     rw [mnAll]
     rw [show mnL [] = some [] from rfl]
     cases mnAll (x :: r) <;> rfl]
    cases hm : mnAll (x :: r) with
    | none => rfl
    | some q =>
     cases q with
     | nil =>
      exfalso
      rw [mnAll] at hm
      cases h1 : mnL x <;> cases h2 : mnAll r <;> rw [h1, h2] at hm <;> simp at hm
     | cons y z => simp [joinN]
   ·by_cases hc2 : c = 126
    ·subst hc2
     cases t with
     | nil =>
      rw [rfL_none, cuL_on (by decide) (show cuL [] = [] :: [] from rfl), mnAll, mnL_none]
      rfl
     | cons d t =>
      have ht' : t.length ≤ n := by simp at ht; omega
      rw [rfL_til]
      obtain ⟨x, r, hx⟩ := cuL_ne t
      by_cases h1 : d = 48
      ·subst h1
       rw [if_pos rfl, addN_on, ih t ht', cuL_on (by decide) (cuL_on (by decide) hx), hx, mnAll, mnAll, mnL_til, if_pos rfl]
       cases mnL x <;> cases mnAll r <;> simp [joinN]
      ·by_cases h2 : d = 49
       ·subst h2
        rw [if_neg h1, if_pos rfl, addN_on, ih t ht', cuL_on (by decide) (cuL_on (by decide) hx), hx, mnAll, mnAll, mnL_til, if_neg (by decide), if_pos rfl]
        cases mnL x <;> cases mnAll r <;> simp [joinN]
       ·rw [if_neg h1, if_neg h2]
        by_cases h3 : d = 47
        ·subst h3
         rw [cuL_on (by decide) (cuL_sl t), mnAll, mnL_none]
         rfl
        ·rw [cuL_on (by decide) (cuL_on h3 hx), mnAll, mnL_til, if_neg h1, if_neg h2]
         rfl
    ·rw [rfL_plain hc hc2, addN_on, ih t ht]
     obtain ⟨x, r, hx⟩ := cuL_ne t
     rw [cuL_on hc hx, hx, mnAll, mnAll, mnL_plain hc2]
     cases mnL x <;> cases mnAll r <;> simp [joinN]
theorem rfL_ptr (l : List UInt8) : (∀ c ∈ l.head?, c = 47) → rfL [] l = ptrL l := by
 intro h
 cases l with
 | nil => rfl
 | cons c t =>
  obtain rfl : c = 47 := h c rfl
  rw [rfL_sl, rfL_on t.length t (Nat.le_refl _) [] [], ptrL, if_pos rfl]
  cases hm : mnAll (cuL t) with
  | none => rfl
  | some q =>
   cases q with
   | nil =>
    obtain ⟨x, r, hx⟩ := cuL_ne t
    rw [hx, mnAll] at hm
    cases h1 : mnL x <;> cases h2 : mnAll r <;> rw [h1, h2] at hm <;> simp at hm
   | cons y z => simp [joinN]
/-- How a name is written. -/
def wrN : List UInt8 → List UInt8
 | [] => []
 | c :: t => if c = 126 then 126 :: 48 :: wrN t else if c = 47 then 126 :: 49 :: wrN t else c :: wrN t
/-- How names are written. -/
def wrL : List (List UInt8) → List UInt8
 | [] => []
 | a :: r => 47 :: (wrN a ++ wrL r)
theorem mnL_wr : ∀ a : List UInt8, mnL (wrN a) = some a
 | [] => rfl
 | c :: t => by
  rw [wrN]
  by_cases h : c = 126
  ·subst h; rw [if_pos rfl, mnL_til, if_pos rfl, mnL_wr t]; rfl
  ·rw [if_neg h]
   by_cases h2 : c = 47
   ·subst h2; rw [if_pos rfl, mnL_til, if_neg (by decide), if_pos rfl, mnL_wr t]; rfl
   ·rw [if_neg h2, mnL_plain h, mnL_wr t]; rfl
theorem wrN_no : ∀ a : List UInt8, ∀ c ∈ wrN a, c ≠ 47
 | [], c, h => by simp [wrN] at h
 | d :: t, c, h => by
  rw [wrN] at h
  by_cases h1 : d = 126
  ·rw [if_pos h1] at h
   simp at h
   rcases h with rfl | rfl | h
   ·decide
   ·decide
   ·exact wrN_no t c h
  ·rw [if_neg h1] at h
   by_cases h2 : d = 47
   ·rw [if_pos h2] at h
    simp at h
    rcases h with rfl | rfl | h
    ·decide
    ·decide
    ·exact wrN_no t c h
   ·rw [if_neg h2] at h
    simp at h
    rcases h with rfl | h
    ·exact h2
    ·exact wrN_no t c h
theorem cuL_pre : ∀ (a : List UInt8), (∀ c ∈ a, c ≠ 47) → ∀ t x r, cuL t = x :: r → cuL (a ++ t) = (a ++ x) :: r
 | [], _, t, x, r, h => h
 | c :: a, hn, t, x, r, h => by
  rw [List.cons_append, cuL_on (hn c (by simp)) (cuL_pre a (fun d hd => hn d (by simp [hd])) t x r h)]
  rfl
theorem cuL_self (a : List UInt8) (h : ∀ c ∈ a, c ≠ 47) : cuL a = [a] := by
 have := cuL_pre a h [] [] [] rfl
 simpa using this
theorem mnAll_wr : ∀ (L : List (List UInt8)) (a : List UInt8), mnAll (cuL (wrN a ++ wrL L)) = some (a :: L)
 | [], a => by
  rw [wrL, List.append_nil, cuL_self _ (wrN_no a), mnAll, mnL_wr]
  rfl
 | b :: L, a => by
  rw [wrL, cuL_pre _ (wrN_no a) _ _ _ (cuL_sl _), List.append_nil, mnAll, mnL_wr, mnAll_wr L b]
/-- What is written of names has these names. -/
theorem ptrL_wr (L : List (List UInt8)) : ptrL (wrL L) = some L := by
 cases L with
 | nil => rfl
 | cons a L => rw [wrL, ptrL, if_pos rfl, mnAll_wr]
theorem wrN_mn : ∀ (n : Nat) (a : List UInt8), a.length ≤ n → (∀ c ∈ a, c ≠ 47) → ∀ x, mnL a = some x → wrN x = a := by
 intro n
 induction n with
 | zero =>
  intro a hl _ x h
  obtain rfl : a = [] := List.length_eq_zero_iff.1 (by omega)
  cases h
  rfl
 | succ n ih =>
  intro a hl hn x h
  cases a with
  | nil => cases h; rfl
  | cons c t =>
   have ht : t.length ≤ n := by simp at hl; omega
   have hnt : ∀ d ∈ t, d ≠ 47 := fun d hd => hn d (by simp [hd])
   by_cases hc : c = 126
   ·subst hc
    cases t with
    | nil => rw [mnL_none] at h; cases h
    | cons d t =>
     have ht' : t.length ≤ n := by simp at ht; omega
     have hnt' : ∀ e ∈ t, e ≠ 47 := fun e he => hnt e (by simp [he])
     rw [mnL_til] at h
     by_cases h1 : d = 48
     ·subst h1
      rw [if_pos rfl] at h
      cases hm : mnL t with
      | none => rw [hm] at h; cases h
      | some y => rw [hm] at h; cases h; rw [wrN, if_pos rfl, ih t ht' hnt' y hm]
     ·rw [if_neg h1] at h
      by_cases h2 : d = 49
      ·subst h2
       rw [if_pos rfl] at h
       cases hm : mnL t with
       | none => rw [hm] at h; cases h
       | some y => rw [hm] at h; cases h; rw [wrN, if_neg (by decide), if_pos rfl, ih t ht' hnt' y hm]
      ·rw [if_neg h2] at h; cases h
   ·rw [mnL_plain hc] at h
    cases hm : mnL t with
    | none => rw [hm] at h; cases h
    | some y => rw [hm] at h; cases h; rw [wrN, if_neg hc, if_neg (hn c (by simp)), ih t ht hnt y hm]
theorem cuL_join : ∀ (l x : List UInt8) (r : List (List UInt8)), cuL l = x :: r → (∀ c ∈ x, c ≠ 47) ∧ (∀ y, mnL x = some y → ∀ ys, mnAll r = some ys → wrN y ++ wrL ys = l)
 | [], x, r, h => by
  rw [cuL] at h
  injection h with h1 h2
  subst h1; subst h2
  refine ⟨fun c hc => by simp at hc, fun y hy ys hys => ?_⟩
  cases hy; cases hys
  rfl
 | c :: t, x, r, h => by
  by_cases hc : c = 47
  ·subst hc
   rw [cuL_sl] at h
   injection h with h1 h2
   subst h1; subst h2
   obtain ⟨x', r', hx'⟩ := cuL_ne t
   obtain ⟨-, i2⟩ := cuL_join t x' r' hx'
   refine ⟨fun c hc => by simp at hc, fun y hy ys hys => ?_⟩
   cases hy
   rw [hx', mnAll] at hys
   cases h1 : mnL x' with
   | none => rw [h1] at hys; simp at hys
   | some y1 =>
    cases h2 : mnAll r' with
    | none => rw [h1, h2] at hys; simp at hys
    | some ys1 =>
     rw [h1, h2] at hys
     cases hys
     rw [wrN, wrL, i2 y1 h1 ys1 h2]
     rfl
  ·obtain ⟨x', r', hx'⟩ := cuL_ne t
   rw [cuL_on hc hx'] at h
   injection h with h1 h2
   subst h1; subst h2
   obtain ⟨i1, i2⟩ := cuL_join t x' r' hx'
   have hno : ∀ d ∈ c :: x', d ≠ 47 := fun d hd => by
    simp at hd
    rcases hd with rfl | hd
    ·exact hc
    ·exact i1 d hd
   refine ⟨hno, fun y hy ys hys => ?_⟩
   have e1 := wrN_mn _ _ (Nat.le_refl _) hno y hy
   rw [e1]
   have : x' ++ wrL ys = t := by
    have hk := cuL_whole t x' r' hx' ys hys
    exact hk
   rw [List.cons_append, this]
where
 cuL_whole : ∀ (l x : List UInt8) (r : List (List UInt8)), cuL l = x :: r → ∀ ys, mnAll r = some ys → x ++ wrL ys = l
 | [], x, r, h, ys, hys => by
  rw [cuL] at h
  injection h with h1 h2
  subst h1; subst h2
  cases hys
  rfl
 | c :: t, x, r, h, ys, hys => by
  by_cases hc : c = 47
  ·subst hc
   rw [cuL_sl] at h
   injection h with h1 h2
   subst h1; subst h2
   obtain ⟨x', r', hx'⟩ := cuL_ne t
   rw [hx', mnAll] at hys
   cases h1 : mnL x' with
   | none => rw [h1] at hys; simp at hys
   | some y1 =>
    cases h2 : mnAll r' with
    | none => rw [h1, h2] at hys; simp at hys
    | some ys1 =>
     rw [h1, h2] at hys
     cases hys
     have hw := cuL_whole t x' r' hx' ys1 h2
     have hnn := (cuL_none t x' r' hx')
     rw [wrL, wrN_mn _ _ (Nat.le_refl _) hnn y1 h1, hw]
     rfl
  ·obtain ⟨x', r', hx'⟩ := cuL_ne t
   rw [cuL_on hc hx'] at h
   injection h with h1 h2
   subst h1; subst h2
   rw [List.cons_append, cuL_whole t x' r' hx' ys hys]
 cuL_none : ∀ (l x : List UInt8) (r : List (List UInt8)), cuL l = x :: r → ∀ c ∈ x, c ≠ 47
 | [], x, r, h => by
  rw [cuL] at h
  injection h with h1 h2
  subst h1
  intro c hc
  simp at hc
 | c :: t, x, r, h => by
  by_cases hc : c = 47
  ·subst hc
   rw [cuL_sl] at h
   injection h with h1 h2
   subst h1
   intro d hd
   simp at hd
  ·obtain ⟨x', r', hx'⟩ := cuL_ne t
   rw [cuL_on hc hx'] at h
   injection h with h1 h2
   subst h1
   intro d hd
   simp at hd
   rcases hd with rfl | hd
   ·exact hc
   ·exact cuL_none t x' r' hx' d hd
/-- What is read of a pointer is written as it. -/
theorem wrL_ptr {l : List UInt8} {L : List (List UInt8)} (h : ptrL l = some L) : wrL L = l := by
 cases l with
 | nil => cases h; rfl
 | cons c t =>
  by_cases hc : c = 47
  ·subst hc
   rw [ptrL, if_pos rfl] at h
   obtain ⟨x, r, hx⟩ := cuL_ne t
   rw [hx, mnAll] at h
   cases h1 : mnL x with
   | none => rw [h1] at h; simp at h
   | some y =>
    cases h2 : mnAll r with
    | none => rw [h1, h2] at h; simp at h
    | some ys =>
     rw [h1, h2] at h
     cases h
     rw [wrL, (cuL_join t x r hx).2 y h1 ys h2]
  ·rw [ptrL, if_neg hc] at h; cases h
/-- One pointer behind another one. -/
theorem wrL_app : ∀ L M : List (List UInt8), wrL (L ++ M) = wrL L ++ wrL M
 | [], M => rfl
 | a :: L, M => by rw [List.cons_append, wrL, wrL, wrL_app L M]; simp
end Go.Proofs.YtjlcliicdclooaaDoor
