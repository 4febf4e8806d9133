/-
 Utf8Math, Utf8Forms, Utf8State, Utf8Rows, Utf8Read, one behind the other.
-/
import Derived.Below
import Derived.Test.YtbabdhepnjacdaaDoorBytsA
import Derived.Test.YtbabdhepnjacdaaDoorKitA
import Derived.Lib.AppendStr
import Derived.Lib.BufferRead
import Derived.Laws.IdiomStrings
import Derived.WalkKit
/- Which bytes may follow which, in numbers: the state behind some bytes, what a text tells, and the forms of characters. -/
namespace Go.Proofs.YtbabdhepnjacdaaDoor
/-- How many bytes the form that has begun still lacks, and from where to where the next one may be. -/
structure Q5 where
 left : Nat
 lo : Nat
 hi : Nat
/-- The state: how many bytes came ahead of the first wrong one, whether one came, and the form. -/
structure St5 where
 good : Nat
 wrong : Bool
 q : Q5
def secLo (x : Nat) : Nat := if x = 224 then 160 else if x = 240 then 144 else 128
def secHi (x : Nat) : Nat := if x = 237 then 159 else if x = 244 then 143 else 191
def begQ (q : Q5) (x : Nat) : Option Q5 :=
 if 244 < x then none else if 240 ≤ x then some ⟨3, secLo x, secHi x⟩ else if 224 ≤ x then some ⟨2, secLo x, secHi x⟩ else if 194 ≤ x then some ⟨1, secLo x, secHi x⟩ else if 128 ≤ x then none else some q
def stp (q : Q5) (x : Nat) : Option Q5 := if q.left = 0 then begQ q x else if x < q.lo ∨ q.hi < x then none else some ⟨q.left - 1, 128, 191⟩
def tk (s : St5) (x : Nat) : St5 := if s.wrong then s else match stp s.q x with
 | some q => ⟨s.good + 1, false, q⟩
 | none => ⟨s.good, true, s.q⟩
def s5 : St5 := ⟨0, false, ⟨0, 0, 0⟩⟩
def runS (s : St5) (l : List Nat) : St5 := l.foldl tk s
def badI (s : St5) : Int := if s.wrong = true ∨ 0 < s.q.left then (s.good : Int) else -1
/-- What Bad says of a text. -/
def badOf (z : ByteArray) : Int := badI (runS s5 (byts z))
theorem runS_cons (s : St5) (x : Nat) (l : List Nat) : runS s (x :: l) = runS (tk s x) l := rfl
theorem runS_append (s : St5) (a b : List Nat) : runS s (a ++ b) = runS (runS s a) b := List.foldl_append ..
theorem runS_snoc (s : St5) (a : List Nat) (x : Nat) : runS s (a ++ [x]) = tk (runS s a) x := by rw [runS_append]; rfl
theorem tk_wrong {s : St5} (h : s.wrong = true) (x : Nat) : tk s x = s := by simp [tk, h]
theorem runS_wrong {s : St5} (h : s.wrong = true) (l : List Nat) : runS s l = s := by
 induction l with
 | nil => rfl
 | cons x l ih => rw [runS_cons, tk_wrong h, ih]
theorem tk_some {s : St5} (h : s.wrong = false) {x : Nat} {q : Q5} (hq : stp s.q x = some q) : tk s x = ⟨s.good + 1, false, q⟩ := by simp [tk, h, hq]
theorem tk_none {s : St5} (h : s.wrong = false) {x : Nat} (hq : stp s.q x = none) : tk s x = ⟨s.good, true, s.q⟩ := by simp [tk, h, hq]
/-- What a beginning of a form is, with the state behind it and the number that its bytes hold so far. -/
def FormAt (b : List Nat) (q : Q5) (r : Nat) : Prop :=
 match b with
 | [] => q.left = 0
 | [x] => (194 ≤ x ∧ x ≤ 223 ∧ q = ⟨1, secLo x, secHi x⟩ ∧ r = x - 192) ∨ (224 ≤ x ∧ x ≤ 239 ∧ q = ⟨2, secLo x, secHi x⟩ ∧ r = x - 224) ∨ (240 ≤ x ∧ x ≤ 244 ∧ q = ⟨3, secLo x, secHi x⟩ ∧ r = x - 240)
 | [x, y] => secLo x ≤ y ∧ y ≤ secHi x ∧ ((224 ≤ x ∧ x ≤ 239 ∧ q = ⟨1, 128, 191⟩ ∧ r = (x - 224) * 64 + (y - 128)) ∨ (240 ≤ x ∧ x ≤ 244 ∧ q = ⟨2, 128, 191⟩ ∧ r = (x - 240) * 64 + (y - 128)))
 | [x, y, z] => secLo x ≤ y ∧ y ≤ secHi x ∧ 128 ≤ z ∧ z ≤ 191 ∧ 240 ≤ x ∧ x ≤ 244 ∧ q = ⟨1, 128, 191⟩ ∧ r = ((x - 240) * 64 + (y - 128)) * 64 + (z - 128)
 | _ => False
/-- The number that the next byte makes. -/
def nextR (b : List Nat) (r x left : Nat) : Nat := if b = [] then x &&& (127 >>> left) else r * 64 + x % 64
def sizeN (c : Nat) : Nat := if (55296 ≤ c ∧ c ≤ 57343) ∨ 1114111 < c then 0 else if c < 128 then 1 else if c < 2048 then 2 else if c < 65536 then 3 else 4
/-- The bytes of a character (of what is none: no bytes). -/
def formL (c : Nat) : List Nat :=
 if sizeN c = 1 then [c] else if sizeN c = 2 then [192 + c / 64, 128 + c % 64] else if sizeN c = 3 then [224 + c / 4096, 128 + c / 64 % 64, 128 + c % 64] else if sizeN c = 4 then [240 + c / 262144, 128 + c / 4096 % 64, 128 + c / 64 % 64, 128 + c % 64] else []
set_option maxRecDepth 100000 in
theorem mask_first {x : Nat} (hx : x < 256) : (x < 128 → x &&& (127 >>> 0) = x) ∧ (194 ≤ x → x ≤ 223 → x &&& (127 >>> 1) = x - 192) ∧ (224 ≤ x → x ≤ 239 → x &&& (127 >>> 2) = x - 224) ∧ (240 ≤ x → x ≤ 244 → x &&& (127 >>> 3) = x - 240) := by
 revert x; decide
theorem secLo_ge (x : Nat) : 128 ≤ secLo x := by unfold secLo; split <;> (try split) <;> omega
theorem sec_facts (x : Nat) : (x = 224 → secLo x = 160) ∧ (x = 240 → secLo x = 144) ∧ (x = 237 → secHi x = 159) ∧ (x = 244 → secHi x = 143) := by
 refine ⟨?_, ?_, ?_, ?_⟩ <;> rintro rfl <;> rfl
theorem secHi_le (x : Nat) : secHi x ≤ 191 := by unfold secHi; split <;> (try split) <;> omega
set_option maxRecDepth 10000 in
/-- A byte more, that fits: either the form is whole, or it is a longer beginning. -/
theorem form_step {b : List Nat} {q q' : Q5} {r x : Nat} (h : FormAt b q r) (hx : x < 256) (hs : stp q x = some q') :
  (q'.left = 0 ∧ b ++ [x] = formL (nextR b r x q'.left) ∧ sizeN (nextR b r x q'.left) = b.length + 1) ∨ (0 < q'.left ∧ FormAt (b ++ [x]) q' (nextR b r x q'.left)) := by
 obtain ⟨m0, m1, m2, m3⟩ := mask_first hx
 match b, h with
 | [], h =>
  have h : q.left = 0 := h
  simp only [stp, h, if_true, begQ] at hs
  simp only [nextR, if_true, List.nil_append]
  split at hs
  ·cases hs
  ·split at hs
   ·cases hs
    right; refine ⟨by simp, .inr (.inr ⟨by omega, by omega, rfl, ?_⟩)⟩
    exact m3 (by omega) (by omega)
   ·split at hs
    ·cases hs
     right; refine ⟨by simp, .inr (.inl ⟨by omega, by omega, rfl, ?_⟩)⟩
     exact m2 (by omega) (by omega)
    ·split at hs
     ·cases hs
      right; refine ⟨by simp, .inl ⟨by omega, by omega, rfl, ?_⟩⟩
      exact m1 (by omega) (by omega)
     ·split at hs
      ·cases hs
      ·cases hs
       left
       rw [h, m0 (by omega)]
       have e : sizeN x = 1 := by unfold sizeN; rw [if_neg (by omega), if_pos (by omega)]
       exact ⟨rfl, by unfold formL; rw [if_pos e], e⟩
 | [y], h =>
  have hl := secLo_ge y
  have hh := secHi_le y
  rcases h with ⟨h1, h2, rfl, rfl⟩ | ⟨h1, h2, rfl, rfl⟩ | ⟨h1, h2, rfl, rfl⟩
  ·simp only [stp] at hs
   rw [if_neg (by decide)] at hs
   split at hs
   ·cases hs
   ·cases hs
    left
    simp only [nextR]
    rw [if_neg (by simp)]
    have e : sizeN ((y - 192) * 64 + x % 64) = 2 := by unfold sizeN; rw [if_neg (by omega), if_neg (by omega), if_pos (by omega)]
    refine ⟨by simp, ?_, e⟩
    unfold formL
    rw [if_neg (by omega), if_pos e]
    simp
    omega
  ·simp only [stp] at hs
   rw [if_neg (by decide)] at hs
   split at hs
   ·cases hs
   ·cases hs
    right
    simp only [nextR]
    rw [if_neg (by simp)]
    refine ⟨by simp, ?_⟩
    show secLo y ≤ x ∧ _
    exact ⟨by omega, by omega, .inl ⟨h1, h2, rfl, by omega⟩⟩
  ·simp only [stp] at hs
   rw [if_neg (by decide)] at hs
   split at hs
   ·cases hs
   ·cases hs
    right
    simp only [nextR]
    rw [if_neg (by simp)]
    refine ⟨by simp, ?_⟩
    show secLo y ≤ x ∧ _
    exact ⟨by omega, by omega, .inr ⟨h1, h2, rfl, by omega⟩⟩
 | [y, z], h =>
  obtain ⟨k1, k2, h⟩ := h
  have hl := secLo_ge y
  have hh := secHi_le y
  rcases h with ⟨h1, h2, rfl, rfl⟩ | ⟨h1, h2, rfl, rfl⟩
  ·simp only [stp] at hs
   rw [if_neg (by decide)] at hs
   split at hs
   ·cases hs
   ·cases hs
    left
    simp only [nextR]
    rw [if_neg (by simp)]
    have e : sizeN (((y - 224) * 64 + (z - 128)) * 64 + x % 64) = 3 := by
     obtain ⟨f1, f2, f3, f4⟩ := sec_facts y
     unfold sizeN
     rw [if_neg (by omega), if_neg (by omega), if_neg (by omega), if_pos (by omega)]
    refine ⟨by simp, ?_, e⟩
    unfold formL
    rw [if_neg (by omega), if_neg (by omega), if_pos e]
    simp
    omega
  ·simp only [stp] at hs
   rw [if_neg (by decide)] at hs
   split at hs
   ·cases hs
   ·cases hs
    right
    simp only [nextR]
    rw [if_neg (by simp)]
    refine ⟨by simp, ?_⟩
    show secLo y ≤ z ∧ _
    exact ⟨k1, k2, by omega, by omega, h1, h2, rfl, by omega⟩
 | [y, z, t], h =>
  obtain ⟨k1, k2, t1, t2, h1, h2, rfl, rfl⟩ := h
  have hl := secLo_ge y
  have hh := secHi_le y
  simp only [stp] at hs
  rw [if_neg (by decide)] at hs
  split at hs
  ·cases hs
  ·cases hs
   left
   simp only [nextR]
   rw [if_neg (by simp)]
   have e : sizeN ((((y - 240) * 64 + (z - 128)) * 64 + (t - 128)) * 64 + x % 64) = 4 := by
    obtain ⟨f1, f2, f3, f4⟩ := sec_facts y
    unfold sizeN
    rw [if_neg (by omega), if_neg (by omega), if_neg (by omega), if_neg (by omega)]
   refine ⟨by simp, ?_, e⟩
   unfold formL
   rw [if_neg (by omega), if_neg (by omega), if_neg (by omega), if_pos e]
   simp
   omega
theorem byt_lt (s : ByteArray) (i : Nat) : byt s i < 256 := UInt8.toNat_lt _
/-- What a text tells from a place on, where r is what the form that began at p holds so far, and the next byte is the number i. -/
def tel (q : Q5) (p r i : Nat) : List Nat → List (Nat × Nat)
 | [] => []
 | x :: l => match stp q x with
  | none => []
  | some q' =>
   if q'.left = 0 then (p, if i = p then x &&& (127 >>> q'.left) else r * 64 + x % 64) :: tel q' (i + 1) (if i = p then x &&& (127 >>> q'.left) else r * 64 + x % 64) (i + 1) l
   else tel q' p (if i = p then x &&& (127 >>> q'.left) else r * 64 + x % 64) (i + 1) l
end Go.Proofs.YtbabdhepnjacdaaDoor
/- A character's form, byte by byte. -/
namespace Go.Proofs.YtbabdhepnjacdaaDoor
theorem sec_more (x : Nat) : (x ≠ 224 → x ≠ 240 → secLo x = 128) ∧ (x ≠ 237 → x ≠ 244 → secHi x = 191) := by
 constructor
 ·intro a b; unfold secLo; rw [if_neg a, if_neg b]
 ·intro a b; unfold secHi; rw [if_neg a, if_neg b]
end Go.Proofs.YtbabdhepnjacdaaDoor
/- What the methods of utf8's state do with it. -/
namespace Go.Proofs.YtbabdhepnjacdaaDoor
open Go.RowKit
/-- All but block b is as it was. -/
def Only (b : Nat) (w w' : World) : Prop := Below b w w' ∧ w'.heap.size = w.heap.size ∧ ∀ c, c ≠ b → w'.heap[c]? = w.heap[c]?
theorem Only.refl (b : Nat) (w : World) : Only b w w := ⟨Below.refl _ _, rfl, fun _ _ => rfl⟩
theorem Only.trans {b : Nat} {w w1 w2 : World} (h : Only b w w1) (k : Only b w1 w2) : Only b w w2 := ⟨h.1.trans k.1, k.2.1.trans h.2.1, fun c hc => (k.2.2 c hc).trans (h.2.2 c hc)⟩
theorem Only.set {b : Nat} {w w' : World} (h : Only b w w') (i : Nat) (v : Value) : Only b w (w'.setCell ⟨b, i, none⟩ v) :=
 ⟨h.1.setCell (p := ⟨b, i, none⟩) (Nat.le_refl _) _, by simp [h.2.1], fun c hc => (Below.heap_setCell w' ⟨b, i, none⟩ v c hc).trans (h.2.2 c hc)⟩
theorem Only.drew {b : Nat} {w w' : World} (h : Only b w w') : Only b w w'.drew := ⟨h.1.drew, h.2.1, h.2.2⟩
theorem Only.below {b k : Nat} {w w' : World} (h : Only b w w') (hk : k ≤ b) : Below k w w' := h.1.mono hk
theorem Only.at {b c : Nat} {w w' : World} (h : Only b w w') {cs : Array Value} {t : TypeId} (ha : At w c cs t) (hc : c ≠ b) : At w' c cs t := (h.2.2 c hc).trans ha
end Go.Proofs.YtbabdhepnjacdaaDoor
/- Rows of bytes, and what string(..) makes of them. -/
namespace Go.Proofs.YtbabdhepnjacdaaDoor
open Go.RowKit
theorem strCells_byts (s : ByteArray) : Lib.strCells s = (byts s).map fun (x : Nat) => Value.int .u8 (x : Int) := by
 unfold Lib.strCells byts
 rw [List.map_map]
 rfl
theorem strCells_mkS {l : List Nat} (h : ∀ x ∈ l, x < 256) : Lib.strCells (mkS l) = l.map fun (x : Nat) => Value.int .u8 (x : Int) := by rw [strCells_byts, byts_mkS h]
theorem strCells_append (a b : ByteArray) : Lib.strCells (a ++ b) = Lib.strCells a ++ Lib.strCells b := by rw [strCells_byts, strCells_byts, strCells_byts, byts_append, List.map_append]
/-- The text of a row of bytes. -/
theorem conv_row {w : World} {B : Nat} {v : Value} {S : ByteArray} (h : w.ownsRow B 5 1 v S.size (Lib.strCells S)) : (convert 118 9 v).run Tryd.prog w = .ok (.string S) w := by
 rcases h.2 with ⟨rfl, h0⟩ | ⟨g, cap, cur, rfl, hb, hgb, h3⟩
 ·have e : S = ByteArray.empty := by
   apply byts_inj
   have h1 := byts_length S
   rw [h0] at h1
   rw [List.eq_nil_of_length_eq_zero h1]
   rfl
  rw [e]
  exact Lib.run_convert_nil_bytes w 118 9 5 0 Tryd.underlying118 Tryd.underlying5 Tryd.underlying9
 ·have hl : S.size = S.data.toList.length := by rw [Array.length_toList]; rfl
  have hr := run_convert_bytes_back (P := Tryd.prog) w 118 9 5 ⟨g, 0, none⟩ cap S.data.toList Tryd.underlying118 Tryd.underlying5 Tryd.underlying9 (fun j hj => by
   exact h.cells (g := g) rfl j _ (by
    unfold Lib.strCells
    rw [List.getElem?_map, List.getElem?_eq_getElem hj]
    rfl))
  rw [← hl] at hr
  rw [hr]
theorem infoU8 : (Tryd.prog.info? 5).map (fun i => (i.zero, i.size, i.bytes)) = some (some (.int .u8 0), 1, 1) := by kernel_rfl
end Go.Proofs.YtbabdhepnjacdaaDoor
/- What utf8.Bad, and a Scan's New, Feed and End answer. -/
namespace Go.Proofs.YtbabdhepnjacdaaDoor
open Go.RowKit
end Go.Proofs.YtbabdhepnjacdaaDoor
