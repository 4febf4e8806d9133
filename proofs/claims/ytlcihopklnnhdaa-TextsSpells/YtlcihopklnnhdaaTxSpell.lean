/-
  A character spelled in several ways: what each means.
-/
import Derived.Test.YtlcihopklnnhdaaTxMeet
namespace Go.Proofs.Ytlcihopklnnhdaa
open Go.RowKit Go.Shelf

theorem size_val {c : Nat} (h : sizeN c ≠ 0) : c ≤ 1114111 ∧ ¬ (55296 ≤ c ∧ c ≤ 57343) := by
  unfold sizeN at h
  by_cases k : (55296 ≤ c ∧ c ≤ 57343) ∨ 1114111 < c
  · rw [if_pos k] at h
    exact absurd rfl h
  · omega
theorem form_char {c : Nat} (h : sizeN c ≠ 0) : formL c = charL c := by
  have hv := size_val h
  unfold formL charL
  by_cases k1 : c < 128
  · have e : sizeN c = 1 := by unfold sizeN; rw [if_neg (by omega), if_pos k1]
    rw [if_pos e, if_pos k1]
  by_cases k2 : c < 2048
  · have e : sizeN c = 2 := by unfold sizeN; rw [if_neg (by omega), if_neg k1, if_pos k2]
    rw [if_neg (by omega), if_pos e, if_neg k1, if_pos k2]
  by_cases k3 : c < 65536
  · have e : sizeN c = 3 := by unfold sizeN; rw [if_neg (by omega), if_neg k1, if_neg k2, if_pos k3]
    rw [if_neg (by omega), if_neg (by omega), if_pos e, if_neg k1, if_neg k2, if_pos k3]
  · have e : sizeN c = 4 := by unfold sizeN; rw [if_neg (by omega), if_neg k1, if_neg k2, if_neg k3]
    rw [if_neg (by omega), if_neg (by omega), if_neg (by omega), if_pos e, if_neg k1, if_neg k2, if_neg k3]
theorem size_len {c : Nat} (h : sizeN c ≠ 0) : (charL c).length = sizeN c := by
  rw [← form_char h, formL_len]
/-- A character turned into a text. -/
theorem enc_char {c : Nat} (h : sizeN c ≠ 0) : Utf8.encode (c : Int) = mkS (charL c) := by
  have hv := size_val h
  have e : Utf8.valid (c : Int) = true := by
    unfold Utf8.valid
    simp
    omega
  unfold Utf8.encode charL
  simp only [e, if_true, Int.toNat_natCast]
  by_cases k1 : c < 128
  · rw [if_pos k1, if_pos k1]; rfl
  rw [if_neg k1, if_neg k1]
  by_cases k2 : c < 2048
  · rw [if_pos k2, if_pos k2]; rfl
  rw [if_neg k2, if_neg k2]
  by_cases k3 : c < 65536
  · rw [if_pos k3, if_pos k3]; rfl
  · rw [if_neg k3, if_neg k3]; rfl
/-- A digit of base 16, in small letters or great ones. -/
def digC (d : Nat) (g : Bool) : Nat := if d < 10 then 48 + d else if g = true then 55 + d else 87 + d
theorem digC_Z {d : Nat} (h : d < 16) (g : Bool) : hexZ (digC d g) = (d : Int) := by
  unfold digC hexZ
  by_cases k : d < 10
  · rw [if_pos k, if_pos (by omega)]; omega
  · rw [if_neg k]
    cases g with
    | true => rw [if_pos rfl, if_neg (by omega), if_neg (by omega), if_pos (by omega)]; omega
    | false =>
      rw [show (if false = true then 55 + d else 87 + d) = 87 + d from rfl, if_neg (by omega), if_pos (by omega)]
      omega
theorem digC_lt {d : Nat} (h : d < 16) (g : Bool) : digC d g < 128 := by
  unfold digC
  split
  · omega
  · split <;> omega
/-- An escape of four digits. -/
def fourL (n : Nat) (g : Bool) : List Nat := [92, 117, digC (n / 4096) g, digC (n / 256 % 16) g, digC (n / 16 % 16) g, digC (n % 16) g]
theorem fourL_lt {n : Nat} (h : n < 65536) (g : Bool) : ∀ x ∈ fourL n g, x < 128 := by
  intro x hx
  simp only [fourL, List.mem_cons, List.not_mem_nil, or_false] at hx
  rcases hx with rfl | rfl | rfl | rfl | rfl | rfl
  · omega
  · omega
  all_goals exact digC_lt (by omega) g
theorem next_fourL {n : Nat} (h : n < 65536) (g : Bool) (r : List Nat) : nextL (fourL n g ++ r) = ⟨6, n, true⟩ := by
  have e1 : n / 4096 < 16 := by omega
  have e2 : n / 256 % 16 < 16 := by omega
  have e3 : n / 16 % 16 < 16 := by omega
  have e4 : n % 16 < 16 := by omega
  have l2 : lb (fourL n g ++ r) 2 = digC (n / 4096) g := rfl
  have l3 : lb (fourL n g ++ r) 3 = digC (n / 256 % 16) g := rfl
  have l4 : lb (fourL n g ++ r) 4 = digC (n / 16 % 16) g := rfl
  have l5 : lb (fourL n g ++ r) 5 = digC (n % 16) g := rfl
  have hok : hexOk (lb (fourL n g ++ r)) 4 = true := by
    simp only [hexOk, Nat.add_zero, l2, l3, l4, l5, digC_Z e1, digC_Z e2, digC_Z e3, digC_Z e4, Bool.true_and, Bool.and_eq_true, decide_eq_true_eq, Nat.reduceAdd]
    omega
  have hv : hexV (lb (fourL n g ++ r)) 4 = n := by
    simp only [hexV, Nat.add_zero, l2, l3, l4, l5, digC_Z e1, digC_Z e2, digC_Z e3, digC_Z e4, Nat.reduceAdd, Int.toNat_natCast]
    omega
  have hf : fourP (lb (fourL n g ++ r)) (fourL n g ++ r).length = ⟨6, n, true⟩ := by
    unfold fourP
    rw [if_pos ⟨by simp [fourL], hok⟩, hv]
  have b0 : lb (fourL n g ++ r) 0 = 92 := rfl
  have b1 : lb (fourL n g ++ r) 1 = 117 := rfl
  unfold nextL nextP
  rw [b0, b1, if_neg (by decide), if_neg (by simp), if_neg (by simp [fourL]), if_neg (by decide), if_neg (by decide), if_neg (by decide), if_neg (by decide), if_neg (by decide), if_neg (by decide), if_pos rfl]
  exact hf
/-- What a spelling must be. -/
def PieceOk (c : Nat) (L : List Nat) : Prop := L.length ≤ 6 * sizeN c ∧ (∀ x ∈ L, x < 256) ∧ okU L ∧ unescL L = some (charL c) ∧ lowP (nextL L) = false
theorem okU_ascii {l : List Nat} (h : ∀ x ∈ l, x < 128) : okU l := ⟨q50, runQ_ascii rfl h, rfl⟩
theorem unesc_whole {l o : List Nat} (hl : l ≠ []) (hb : ∀ x ∈ l, x < 256) (hs : stepL l = some (l.length, o)) : unescL l = some o := by
  rw [unescL_some hl hb hs, List.drop_length, unescL_nil]
  simp
theorem sizeN_pos {c : Nat} (h : sizeN c ≠ 0) : 1 ≤ sizeN c := by omega
theorem piece_four {c : Nat} (h : sizeN c ≠ 0) (hc : c < 65536) (g : Bool) : PieceOk c (fourL c g) := by
  have hv := size_val h
  have hlt := fourL_lt hc g
  have hn := next_fourL hc g []
  rw [List.append_nil] at hn
  have hh : highP ⟨6, c, true⟩ = false := by simp [highP]; omega
  have hl : lowP ⟨6, c, true⟩ = false := by simp [lowP]; omega
  have hb : ∀ x ∈ fourL c g, x < 256 := fun x hx => by have := hlt x hx; omega
  refine ⟨by have := sizeN_pos h; simp [fourL]; omega, hb, okU_ascii hlt, unesc_whole (by simp [fourL]) hb ?_, by rw [hn]; exact hl⟩
  unfold stepL
  rw [hn]
  rw [if_neg (by simp), if_neg (by rw [hh]; simp), if_neg (by rw [hh, hl]; simp), if_pos rfl]
  rfl
theorem piece_pair {c : Nat} (h : sizeN c ≠ 0) (hc : 65536 ≤ c) (g g' : Bool) : PieceOk c (fourL (55296 + (c - 65536) / 1024) g ++ fourL (56320 + (c - 65536) % 1024) g') := by
  have hv := size_val h
  obtain ⟨a, ha⟩ : ∃ a, 55296 + (c - 65536) / 1024 = a := ⟨_, rfl⟩
  obtain ⟨b, hb⟩ : ∃ b, 56320 + (c - 65536) % 1024 = b := ⟨_, rfl⟩
  rw [ha, hb]
  have a1 : 55296 ≤ a ∧ a ≤ 56319 := by omega
  have b1 : 56320 ≤ b ∧ b ≤ 57343 := by omega
  have hlt : ∀ x ∈ fourL a g ++ fourL b g', x < 128 := fun x hx => by
    rcases List.mem_append.1 hx with hx | hx
    · exact fourL_lt (by omega) g x hx
    · exact fourL_lt (by omega) g' x hx
  have hbt : ∀ x ∈ fourL a g ++ fourL b g', x < 256 := fun x hx => by have := hlt x hx; omega
  have hn := next_fourL (n := a) (by omega) g (fourL b g')
  have hn2 := next_fourL (n := b) (by omega) g' []
  rw [List.append_nil] at hn2
  have hd : (fourL a g ++ fourL b g').drop 6 = fourL b g' := rfl
  have hh : highP ⟨6, a, true⟩ = true := by simp [highP]; omega
  have hl : lowP ⟨6, b, true⟩ = true := by simp [lowP]; omega
  have hl2 : lowP ⟨6, a, true⟩ = false := by simp [lowP]; omega
  have s4 : sizeN c = 4 := by unfold sizeN; rw [if_neg (by omega), if_neg (by omega), if_neg (by omega), if_neg (by omega)]
  refine ⟨by rw [s4]; simp [fourL], hbt, okU_ascii hlt, unesc_whole (by simp [fourL]) hbt ?_, by rw [hn]; exact hl2⟩
  unfold stepL
  rw [hn]
  show (if (6 : Nat) = 0 then none else if highP ⟨6, a, true⟩ = true ∧ 6 < (fourL a g ++ fourL b g').length ∧ lowP (nextL ((fourL a g ++ fourL b g').drop 6)) = true then some (6 + (nextL ((fourL a g ++ fourL b g').drop 6)).size, charL (65536 + (a - 55296) * 1024 + ((nextL ((fourL a g ++ fourL b g').drop 6)).means - 56320))) else _) = _
  rw [hd, hn2, if_neg (by decide), if_pos ⟨hh, by simp [fourL], hl⟩]
  show some (12, charL (65536 + (a - 55296) * 1024 + (b - 56320))) = some (12, _)
  rw [show 65536 + (a - 55296) * 1024 + (b - 56320) = c by omega]
theorem piece_itself {c : Nat} (h : sizeN c ≠ 0) (h1 : 32 ≤ c) (h2 : c ≠ 34) (h3 : c ≠ 92) : PieceOk c (charL c) := by
  have hv := size_val h
  have hx : ∀ x ∈ charL c, 32 ≤ x ∧ x ≠ 34 ∧ x ≠ 92 := by
    unfold charL
    intro x hx
    by_cases k1 : c < 128
    · rw [if_pos k1] at hx
      simp at hx
      omega
    rw [if_neg k1] at hx
    by_cases k2 : c < 2048
    · rw [if_pos k2] at hx
      simp at hx
      omega
    rw [if_neg k2] at hx
    by_cases k3 : c < 65536
    · rw [if_pos k3] at hx
      simp at hx
      omega
    · rw [if_neg k3] at hx
      simp at hx
      omega
  have hfl : ∀ l : List Nat, (∀ x ∈ l, 32 ≤ x ∧ x ≠ 34 ∧ x ≠ 92) → l.flatMap oneL = l := by
    intro l
    induction l with
    | nil => intro _; rfl
    | cons y l ih =>
      intro hy
      rw [List.flatMap_cons, ih (fun x hx => hy x (by simp [hx]))]
      have := hy y (by simp)
      unfold oneL
      rw [if_neg this.2.1, if_neg this.2.2, if_neg (by omega), if_neg (by omega), if_neg (by omega), if_neg (by omega), if_neg (by omega), if_neg (by omega)]
      rfl
  have hlt := charL_lt (n := c) (by omega)
  have hu := unesc_esc hlt
  rw [hfl _ hx] at hu
  obtain ⟨q', hq, hq0⟩ := char_ok (q := q50) rfl (n := c) (by omega) hv.2
  refine ⟨by rw [size_len h]; omega, hlt, ⟨q', hq, hq0⟩, hu, ?_⟩
  obtain ⟨y, r, hyr⟩ : ∃ y r, charL c = y :: r := by
    cases hc : charL c with
    | nil => have := (charL_len c).1; rw [hc] at this; simp at this
    | cons y r => exact ⟨y, r, rfl⟩
  rw [hyr]
  have hy := hx y (by rw [hyr]; simp)
  have : nextL (y :: r) = ⟨1, y, false⟩ := by
    unfold nextL nextP
    have b0 : lb (y :: r) 0 = y := rfl
    rw [b0, if_neg (by omega), if_pos hy.2.2]
  rw [this]
  rfl
theorem piece_short {c m : Nat} (h : (c = 34 ∧ m = 34) ∨ (c = 92 ∧ m = 92) ∨ (c = 47 ∧ m = 47) ∨ (c = 8 ∧ m = 98) ∨ (c = 12 ∧ m = 102) ∨ (c = 10 ∧ m = 110) ∨ (c = 13 ∧ m = 114) ∨ (c = 9 ∧ m = 116)) : PieceOk c [92, m] := by
  have ok : ∀ m, m < 128 → okU [92, m] := fun m hm => okU_ascii (fun x hx => by simp at hx; omega)
  rcases h with ⟨rfl, rfl⟩ | ⟨rfl, rfl⟩ | ⟨rfl, rfl⟩ | ⟨rfl, rfl⟩ | ⟨rfl, rfl⟩ | ⟨rfl, rfl⟩ | ⟨rfl, rfl⟩ | ⟨rfl, rfl⟩ <;>
    exact ⟨by decide, by decide, ok _ (by decide), by decide +kernel, by decide +kernel⟩
/-- A spelling behind what is right. -/
theorem piece_behind {R L o : List Nat} {c : Nat} (hR : ∀ x ∈ R, x < 256) (hk : okU R) (hu : unescL R = some o) (h : PieceOk c L) : okU (R ++ L) ∧ unescL (R ++ L) = some (o ++ charL c) := by
  obtain ⟨-, h2, h3, h4, h5⟩ := h
  refine ⟨ok_app hk h3, unesc_join _ R L (Nat.le_refl _) hR h2 o _ hu h4 (fun hm => ?_)⟩
  rw [hm.2.2] at h5
  cases h5
end Go.Proofs.Ytlcihopklnnhdaa
