/-
  Digit by digit (mathematics, for gather).
-/
import Derived.Test.YtheeonlfbnkhgaaDoorWhlStr
import Derived.Recover
import Derived.Defers
import Derived.WalkLawsBesides
namespace Go.Proofs.YtheeonlfbnkhgaaDoor
open Go.RowKit Go.Shelf

/-- A number with its sign. -/
def sgV (b : Bool) (m : Nat) : Int := if b then -(m : Int) else (m : Int)
theorem sgV_sg (b : Bool) (m : Nat) : sgN b (sgV b m) := by
  cases b <;> simp [sgN, sgV]
theorem sgV_nx (b : Bool) (m d : Nat) : nxN b (sgV b m) (d : Int) = sgV b (10 * m + d) := by
  cases b <;> simp [nxN, sgV] <;> omega
theorem sgV_zero (k : IntKind) (b : Bool) : fitN k (sgV b 0) ∧ sgV b 0 = 0 := by
  have hk := k_bounds k
  cases b <;> simp [fitN, sgV] <;> omega
theorem fit_less {k : IntKind} {b : Bool} {m m' : Nat} (h : fitN k (sgV b m')) (hm : m ≤ m') : fitN k (sgV b m) := by
  have hk := k_bounds k
  unfold fitN sgV at *
  cases b <;> simp at h ⊢ <;> omega
/-- What is known of the number of the first i digits. -/
def GatR (k : IntKind) (B : Bool) (D : ByteArray) (i m : Nat) : Prop := m = pwN (D.data.toList.take i) ∧ fitN k (sgV B m)
theorem GatR.zero (k : IntKind) (B : Bool) (D : ByteArray) : GatR k B D 0 0 := ⟨by simp [pwN], (sgV_zero k B).1⟩
theorem GatR.next {k : IntKind} {B : Bool} {D : ByteArray} {i m : Nat} (h : GatR k B D i m) (hi : i < D.size) (hf : fitN k (sgV B (10 * m + (lk D i - 48)))) : GatR k B D (i + 1) (10 * m + (lk D i - 48)) :=
  ⟨by rw [pw_take D i hi, h.1], hf⟩
theorem GatR.off {k : IntKind} {B : Bool} {D : ByteArray} {i m : Nat} (h : GatR k B D i m) (hi : i < D.size) (hf : ¬ fitN k (sgV B (10 * m + (lk D i - 48)))) : overE = endN k (sgV B (pwN D.data.toList)) := by
  rw [endN, if_neg]
  intro hf2
  refine hf (fit_less hf2 ?_)
  rw [h.1, ← pw_take D i hi]
  exact pw_mono _ _
theorem GatR.all {k : IntKind} {B : Bool} {D : ByteArray} {m : Nat} (h : GatR k B D D.size m) : Ending.returned (.int k (sgV B m)) = endN k (sgV B (pwN D.data.toList)) := by
  have h1 : m = pwN D.data.toList := by rw [h.1, List.take_of_length_le (by rw [size_list]; exact Nat.le_refl _)]
  rw [← h1, endN, if_pos h.2]
theorem u8_dig {x : Nat} (h : dgB x = true) : IntKind.u8.wrap ((x : Int) - 48) = ((x - 48 : Nat) : Int) := by
  have := (dgB_iff x).1 h
  rw [kw_id .u8 _ (by show (0 : Int) ≤ _; omega) (by show _ ≤ (255 : Int); omega)]
  omega
theorem k_dig (k : IntKind) {W : Int → Int} (hW : ∀ x, k.wrap x = W x) {d : Nat} (h : d ≤ 9) : W (d : Int) = (d : Int) := by
  have hk := k_bounds k
  rw [← hW, kw_id k _ (by omega) (by omega)]
section
variable {n d : Int}
theorem beh8_ret0 (hs : sgN false n) (h0 : 0 ≤ d) (_ : d ≤ 9) (hq : n * 10 % 256 / 10 = n) (hl : n * 10 % 256 ≤ (n * 10 + d) % 256) : Ending.returned (.int .u8 ((n * 10 + d) % 256)) = endN .u8 (nxN false n d) := by
  have hs' : 0 ≤ n := hs
  have hf : fitN .u8 (nxN false n d) := ⟨show (0 : Int) ≤ 10 * n + d by omega, show 10 * n + d ≤ (255 : Int) by omega⟩
  have e : (n * 10 + d) % 256 = 10 * n + d := by omega
  rw [endN, if_pos hf, e]
  rfl
theorem beh8_ret1 (hs : sgN true n) (h0 : 0 ≤ d) (_ : d ≤ 9) (hq : n * 10 % 256 / 10 = n) (hl : (n * 10 - d) % 256 ≤ n * 10 % 256) : Ending.returned (.int .u8 ((n * 10 - d) % 256)) = endN .u8 (nxN true n d) := by
  have hs' : n ≤ 0 := hs
  have hf : fitN .u8 (nxN true n d) := ⟨show (0 : Int) ≤ 10 * n - d by omega, show 10 * n - d ≤ (255 : Int) by omega⟩
  have e : (n * 10 - d) % 256 = 10 * n - d := by omega
  rw [endN, if_pos hf, e]
  rfl
theorem beh8_pq {b : Bool} (hs : sgN b n) (h0 : 0 ≤ d) (_ : d ≤ 9) (hq : ¬ n * 10 % 256 / 10 = n) : overE = endN .u8 (nxN b n d) := by
  rw [endN, if_neg]
  intro hf
  cases b
  · have hs' : 0 ≤ n := hs
    have h1 : (0 : Int) ≤ 10 * n + d := hf.1
    have h2 : 10 * n + d ≤ (255 : Int) := hf.2
    omega
  · have hs' : n ≤ 0 := hs
    have h1 : (0 : Int) ≤ 10 * n - d := hf.1
    omega
theorem beh8_p0 (hs : sgN false n) (h0 : 0 ≤ d) (_ : d ≤ 9) (hl : (n * 10 + d) % 256 < n * 10 % 256) : overE = endN .u8 (nxN false n d) := by
  rw [endN, if_neg]
  intro hf
  have hs' : 0 ≤ n := hs
  have h2 : 10 * n + d ≤ (255 : Int) := hf.2
  omega
theorem beh8_p1 (hs : sgN true n) (h0 : 0 ≤ d) (_ : d ≤ 9) (hl : n * 10 % 256 < (n * 10 - d) % 256) : overE = endN .u8 (nxN true n d) := by
  rw [endN, if_neg]
  intro hf
  have hs' : n ≤ 0 := hs
  have h1 : (0 : Int) ≤ 10 * n - d := hf.1
  omega
end
section
variable {n d : Int}
theorem beh32_ret0 (hs : sgN false n) (h0 : 0 ≤ d) (_ : d ≤ 9) (hq : n * 10 % 4294967296 / 10 = n) (hl : n * 10 % 4294967296 ≤ (n * 10 + d) % 4294967296) : Ending.returned (.int .u32 ((n * 10 + d) % 4294967296)) = endN .u32 (nxN false n d) := by
  have hs' : 0 ≤ n := hs
  have hf : fitN .u32 (nxN false n d) := ⟨show (0 : Int) ≤ 10 * n + d by omega, show 10 * n + d ≤ (4294967295 : Int) by omega⟩
  have e : (n * 10 + d) % 4294967296 = 10 * n + d := by omega
  rw [endN, if_pos hf, e]
  rfl
theorem beh32_ret1 (hs : sgN true n) (h0 : 0 ≤ d) (_ : d ≤ 9) (hq : n * 10 % 4294967296 / 10 = n) (hl : (n * 10 - d) % 4294967296 ≤ n * 10 % 4294967296) : Ending.returned (.int .u32 ((n * 10 - d) % 4294967296)) = endN .u32 (nxN true n d) := by
  have hs' : n ≤ 0 := hs
  have hf : fitN .u32 (nxN true n d) := ⟨show (0 : Int) ≤ 10 * n - d by omega, show 10 * n - d ≤ (4294967295 : Int) by omega⟩
  have e : (n * 10 - d) % 4294967296 = 10 * n - d := by omega
  rw [endN, if_pos hf, e]
  rfl
theorem beh32_pq {b : Bool} (hs : sgN b n) (h0 : 0 ≤ d) (_ : d ≤ 9) (hq : ¬ n * 10 % 4294967296 / 10 = n) : overE = endN .u32 (nxN b n d) := by
  rw [endN, if_neg]
  intro hf
  cases b
  · have hs' : 0 ≤ n := hs
    have h1 : (0 : Int) ≤ 10 * n + d := hf.1
    have h2 : 10 * n + d ≤ (4294967295 : Int) := hf.2
    omega
  · have hs' : n ≤ 0 := hs
    have h1 : (0 : Int) ≤ 10 * n - d := hf.1
    omega
theorem beh32_p0 (hs : sgN false n) (h0 : 0 ≤ d) (_ : d ≤ 9) (hl : (n * 10 + d) % 4294967296 < n * 10 % 4294967296) : overE = endN .u32 (nxN false n d) := by
  rw [endN, if_neg]
  intro hf
  have hs' : 0 ≤ n := hs
  have h2 : 10 * n + d ≤ (4294967295 : Int) := hf.2
  omega
theorem beh32_p1 (hs : sgN true n) (h0 : 0 ≤ d) (_ : d ≤ 9) (hl : n * 10 % 4294967296 < (n * 10 - d) % 4294967296) : overE = endN .u32 (nxN true n d) := by
  rw [endN, if_neg]
  intro hf
  have hs' : n ≤ 0 := hs
  have h1 : (0 : Int) ≤ 10 * n - d := hf.1
  omega
end
/-- How read ends. -/
def rdE (k : IntKind) (s : ByteArray) : Ending :=
  if (ofS s).2 = 110 then .returned (.tuple #[.int k 0, .int .i64 110]) else if hasP s then .returned (.tuple #[.int k 0, .int .i64 120])
  else if fitN k (valS s) then .returned (.tuple #[.int k (valS s), .int .i64 0]) else overE
theorem val_sg {s : ByteArray} {B : Bool} {D : ByteArray} (h : PlainN s B D) : valS s = sgV B (pwN D.data.toList) := h.val_eq
theorem plain_size {s : ByteArray} {B : Bool} {D : ByteArray} (h : PlainN s B D) : D.size ≤ s.size := by
  rw [h.txt, app_size]; omega
/-- How the face ends, where read returns and where it doesn't. -/
theorem rd_whole {k : IntKind} {s : ByteArray} {X : Int} {E : Nat} (h : wholeS k.min k.max s = (X, E)) : rdE k s = .returned (.tuple #[.int k X, .int .i64 (E : Int)]) ∨ (rdE k s = overE ∧ X = 0 ∧ E = 121) := by
  unfold wholeS at h
  unfold rdE
  split at h
  · rename_i h1
    rw [if_pos h1]
    cases h
    exact .inl rfl
  · rename_i h1
    rw [if_neg h1]
    split at h
    · rename_i h2
      rw [if_pos h2]
      cases h
      exact .inl rfl
    · rename_i h2
      rw [if_neg h2]
      split at h
      · rename_i h3
        rw [if_pos (show fitN k (valS s) from h3)]
        cases h
        exact .inl rfl
      · rename_i h3
        rw [if_neg (show ¬ fitN k (valS s) from h3)]
        cases h
        exact .inr ⟨rfl, rfl, rfl⟩
end Go.Proofs.YtheeonlfbnkhgaaDoor
