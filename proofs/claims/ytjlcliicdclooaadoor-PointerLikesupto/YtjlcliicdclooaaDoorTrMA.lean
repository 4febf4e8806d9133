/-
 TrM, TrM2, TrM3, TrM4, TrM5, TrM6, one behind the other.
-/
import Derived.Test.YtjlcliicdclooaaDoorTrJA
import Derived.Test.YtjlcliicdclooaaDoorDecCmp
import Derived.Test.YtjlcliicdclooaaDoorDecR
import Derived.Deep.MidRow
/- When two values that are well shaped are alike; quarryref17.covers. -/
namespace Go.Proofs.YtjlcliicdclooaaDoor
open Go.RowKit Go.Shelf
/-- Numbers of one worth; or of both none, and the same text. -/
def NumA (r r' : ByteArray) : Prop := if (ofS r).2 ≠ 0 ∨ (ofS r').2 ≠ 0 then r = r' else (cmpR (ofS r).1.neg ⟨(ofS r).1.ds.toArray⟩ (ofS r).1.ex (ofS r').1.neg ⟨(ofS r').1.ds.toArray⟩ (ofS r').1.ex).1 = 0
/-- Alike. -/
def Alk : Vt → Vt → Prop
 | .mk k b r t ks vs, u =>
  k = u.kind ∧ (k = 2 → b = u.b) ∧ (k = 4 → t = u.text) ∧ (k = 3 → NumA r u.raw) ∧
  (k = 5 → vs.length = u.kids.length ∧ ∀ (i : Nat) (x y : Vt) (_h : vs[i]? = some x), u.kids[i]? = some y → Alk x y) ∧
  (k = 6 → (∀ (j : Nat) (nm : ByteArray), u.keys[j]? = some nm → ∃ q : Nat, ks[q]? = some nm) ∧
   ∀ (i : Nat) (x : Vt) (_h : vs[i]? = some x) (nm : ByteArray), ks[i]? = some nm → IsFst ks nm (i : Int) → ∃ (q : Nat) (y : Vt), IsFst u.keys nm (q : Int) ∧ u.kids[q]? = some y ∧ Alk x y)
termination_by t => SizeOf.sizeOf t
decreasing_by
 all_goals exact kid_size _h
/-- What alike leaves. -/
def AlkP (t u : Vt) (w : World) (e : Ending) (w' : World) : Prop := ∃ B : Bool, e = .returned (.bool B) ∧ (B = true ↔ Alk t u) ∧ Below w.heap.size w w'
/-- Each member that counts is alike to that of the other one. -/
def CovS (ks : List ByteArray) (vs : List Vt) (ks2 : List ByteArray) (vs2 : List Vt) (n : Nat) : Prop :=
 ∀ (i : Nat) (x : Vt) (nm : ByteArray), i < n → vs[i]? = some x → ks[i]? = some nm → IsFst ks nm (i : Int) → ∃ (q : Nat) (y : Vt), IsFst ks2 nm (q : Int) ∧ vs2[q]? = some y ∧ Alk x y
end Go.Proofs.YtjlcliicdclooaaDoor
/- quarryref17.covers, where alike is known of the Kids. -/
namespace Go.Proofs.YtjlcliicdclooaaDoor
open Go.RowKit Go.Shelf
end Go.Proofs.YtjlcliicdclooaaDoor
/- quarryref17.alike of values that are neither arrays nor objects. -/
namespace Go.Proofs.YtjlcliicdclooaaDoor
open Go.RowKit Go.Shelf
/-- What alike of two numbers leaves. -/
def NumP (r r2 : ByteArray) (w : World) (e : Ending) (w' : World) : Prop := ∃ B : Bool, e = .returned (.bool B) ∧ (B = true ↔ NumA r r2) ∧ Below w.heap.size w w'
theorem ds_read17 (s : ByteArray) : (readS s 0).1.ds.length ≤ 2 * s.size := by
 have hd : ∀ (n : Num) (d : Dec), worthS n = some d → d.ds.length ≤ n.wh.size + n.be.size := by
  intro n d hn
  unfold worthS at hn
  split at hn
  ·injection hn with hn; rw [← hn]; exact Nat.zero_le _
  ·split at hn
   ·injection hn with hn
    rw [← hn]
    refine Nat.le_trans (trimR_length _ _) (Nat.le_trans (trimL_length _ _) ?_)
    rw [List.length_append, size_list, size_list]
    exact Nat.le_refl _
   ·cases hn
 obtain ⟨r, hrr⟩ : ∃ r, scanS s 0 = r := ⟨_, rfl⟩
 obtain ⟨on, en⟩ := r
 cases on with
 | none =>
  have : readS s 0 = (zeroD, en, 110) := by rw [readS, hrr]
  rw [this]; exact Nat.zero_le _
 | some n =>
  obtain ⟨q1, -, -⟩ := num_of hrr (Nat.zero_le _)
  have e1 : readS s 0 = match worthS n with | none => (zeroD, en, 111) | some d => (d, en, 0) := by rw [readS, hrr]; rfl
  cases hw : worthS n with
  | none => rw [hw] at e1; rw [e1]; exact Nat.zero_le _
  | some d =>
   rw [hw] at e1
   have := hd n d hw
   rw [e1]
   show d.ds.length ≤ _
   omega
theorem ds_size17 (r : ByteArray) : ((⟨(ofS r).1.ds.toArray⟩ : ByteArray)).size ≤ 2 * r.size := by
 show (ofS r).1.ds.toArray.size ≤ _
 rw [List.size_toArray]
 unfold ofS
 split
 ·exact ds_read17 r
 ·exact Nat.zero_le _
end Go.Proofs.YtjlcliicdclooaaDoor
/- quarryref17.alike of arrays, where it is known of the Kids. -/
namespace Go.Proofs.YtjlcliicdclooaaDoor
open Go.RowKit Go.Shelf
theorem alk5 (b : Bool) (r t : ByteArray) (ks : List ByteArray) (vs : List Vt) (b2 : Bool) (r2 t2 : ByteArray) (ks2 : List ByteArray) (vs2 : List Vt) :
  Alk (.mk 5 b r t ks vs) (.mk 5 b2 r2 t2 ks2 vs2) ↔ vs.length = vs2.length ∧ ∀ (i : Nat) (x y : Vt), vs[i]? = some x → vs2[i]? = some y → Alk x y := by
 rw [Alk]
 constructor
 ·rintro ⟨-, -, -, -, h, -⟩
  exact h rfl
 ·intro h
  exact ⟨rfl, fun e => absurd e (by decide), fun e => absurd e (by decide), fun e => absurd e (by decide), fun _ => h, fun e => absurd e (by decide)⟩
theorem alk6 (b : Bool) (r t : ByteArray) (ks : List ByteArray) (vs : List Vt) (b2 : Bool) (r2 t2 : ByteArray) (ks2 : List ByteArray) (vs2 : List Vt) :
  Alk (.mk 6 b r t ks vs) (.mk 6 b2 r2 t2 ks2 vs2) ↔ (∀ (j : Nat) (nm : ByteArray), ks2[j]? = some nm → ∃ q : Nat, ks[q]? = some nm) ∧ CovS ks vs ks2 vs2 ks.length := by
 rw [Alk]
 constructor
 ·rintro ⟨-, -, -, -, -, h⟩
  exact ⟨(h rfl).1, fun i x nm _ hx hn hf => (h rfl).2 i x hx nm hn hf⟩
 ·intro h
  exact ⟨rfl, fun e => absurd e (by decide), fun e => absurd e (by decide), fun e => absurd e (by decide), fun e => absurd e (by decide), fun _ => ⟨h.1, fun i x hx nm hn hf => h.2 i x nm (List.getElem?_eq_some_iff.mp hn).1 hx hn hf⟩⟩
end Go.Proofs.YtjlcliicdclooaaDoor
/- quarryref17.alike, of objects and of all. -/
namespace Go.Proofs.YtjlcliicdclooaaDoor
open Go.RowKit Go.Shelf
end Go.Proofs.YtjlcliicdclooaaDoor
/- quarryref17.alike, of all; Alike, Like. -/
namespace Go.Proofs.YtjlcliicdclooaaDoor
open Go.RowKit Go.Shelf
theorem plain_names {b : Bool} {r t : ByteArray} {ks : List ByteArray} {vs : List Vt} (h : plainV (.mk 6 b r t ks vs) = true) : vs.length = ks.length := by
 unfold plainV at h
 dsimp only at h
 simp only [show ¬ (6 : Int) = 1 by decide, show ¬ (6 : Int) = 2 by decide, show ¬ (6 : Int) = 3 by decide, show ¬ (6 : Int) = 4 by decide, show ¬ (6 : Int) = 5 by decide, if_false, if_true, Bool.and_eq_true, decide_eq_true_eq] at h
 exact h.2.2.2.2.symm
theorem alk_k (k : Int) (b : Bool) (r t : ByteArray) (ks : List ByteArray) (vs : List Vt) (k2 : Int) (b2 : Bool) (r2 t2 : ByteArray) (ks2 : List ByteArray) (vs2 : List Vt) (h : Alk (.mk k b r t ks vs) (.mk k2 b2 r2 t2 ks2 vs2)) : k = k2 := by
 rw [Alk] at h
 exact h.1
theorem alk0 (k : Int) (h5 : k ≠ 5) (h6 : k ≠ 6) (b : Bool) (r t : ByteArray) (ks : List ByteArray) (vs : List Vt) (b2 : Bool) (r2 t2 : ByteArray) (ks2 : List ByteArray) (vs2 : List Vt) :
  Alk (.mk k b r t ks vs) (.mk k b2 r2 t2 ks2 vs2) ↔ (k = 2 → b = b2) ∧ (k = 4 → t = t2) ∧ (k = 3 → NumA r r2) := by
 rw [Alk]
 constructor
 ·rintro ⟨-, h2, h4, h3, -⟩
  exact ⟨h2, h4, h3⟩
 ·rintro ⟨h2, h4, h3⟩
  exact ⟨rfl, h2, h4, h3, fun e => absurd e h5, fun e => absurd e h6⟩
/-- Whether two values are alike: both are well shaped, too. -/
def AlkB (t u : Vt) (B : Bool) : Prop := B = true ↔ wfV t 1024 = true ∧ wfV u 1024 = true ∧ Alk t u
end Go.Proofs.YtjlcliicdclooaaDoor
