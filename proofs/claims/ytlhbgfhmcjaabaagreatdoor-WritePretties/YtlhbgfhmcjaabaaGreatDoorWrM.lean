/-
 The texts of a value, as the writer writes them: math.
-/
import Derived.Test.YtlhbgfhmcjaabaaGreatDoorWrD
import Derived.Test.YtlhbgfhmcjaabaaGreatDoorRefTx4
import Derived.Test.YtlhbgfhmcjaabaaGreatDoorPack6
import Derived.Test.YtlhbgfhmcjaabaaGreatDoorTpF
namespace Go.Proofs.YtlhbgfhmcjaabaaGreatDoor
open Go.RowKit Go.Shelf
/-- A text in quotes. -/
def quoL (s : ByteArray) : List UInt8 := 34 :: (wrS s).1.data.toList ++ [34]
def wordL (k : Int) (b : Bool) (r : ByteArray) : ByteArray := if k = 2 then (if b then ⟨#[116, 114, 117, 101]⟩ else ⟨#[102, 97, 108, 115, 101]⟩) else if k = 3 then r else ⟨#[110, 117, 108, 108]⟩
mutual
/-- What a value is written as, at a depth. -/
def ptV (cl ln : ByteArray) (ix : Nat) : Vt → Nat → List UInt8
 | .mk k b r t ks vs, d => if k = 4 then quoL t else if k = 5 then 91 :: (ptA cl ln ix vs d 0 ++ ((if 0 < vs.length then fdL ln ix d else []) ++ [93])) else if k = 6 then 123 :: (ptO cl ln ix vs ks d 0 ++ ((if 0 < vs.length then fdL ln ix d else []) ++ [125])) else (wordL k b r).data.toList
def ptA (cl ln : ByteArray) (ix : Nat) : List Vt → Nat → Nat → List UInt8
 | [], _, _ => []
 | v :: vs, d, i => ((if 0 < i then [44] else []) ++ fdL ln ix (d + 1)) ++ (ptV cl ln ix v (d + 1) ++ ptA cl ln ix vs d (i + 1))
def ptO (cl ln : ByteArray) (ix : Nat) : List Vt → List ByteArray → Nat → Nat → List UInt8
 | [], _, _, _ => []
 | _ :: _, [], _, _ => []
 | v :: vs, k :: ks, d, i => ((if 0 < i then [44] else []) ++ fdL ln ix (d + 1)) ++ (quoL k ++ (cl.data.toList ++ (ptV cl ln ix v (d + 1) ++ ptO cl ln ix vs ks d (i + 1))))
end
section
variable {cl ln : ByteArray} {ix : Nat}
theorem ptA_snoc (d : Nat) : ∀ (us : List Vt) (v : Vt) (i : Nat), ptA cl ln ix (us ++ [v]) d i = ptA cl ln ix us d i ++ (((if 0 < i + us.length then [44] else []) ++ fdL ln ix (d + 1)) ++ ptV cl ln ix v (d + 1))
 | [], v, i => by simp [ptA]
 | u :: us, v, i => by
  rw [List.cons_append]
  unfold ptA
  rw [ptA_snoc d us v (i + 1)]
  simp only [List.append_assoc, List.length_cons, show i + 1 + us.length = i + (us.length + 1) by omega]
theorem ptO_snoc (d : Nat) : ∀ (us : List Vt) (ks : List ByteArray) (v : Vt) (k : ByteArray) (i : Nat), ks.length = us.length → ptO cl ln ix (us ++ [v]) (ks ++ [k]) d i = ptO cl ln ix us ks d i ++ (((if 0 < i + us.length then [44] else []) ++ fdL ln ix (d + 1)) ++ (quoL k ++ (cl.data.toList ++ ptV cl ln ix v (d + 1))))
 | [], [], v, k, i, _ => by simp [ptO]
 | [], _ :: _, _, _, _, h => by simp at h
 | _ :: _, [], _, _, _, h => by simp at h
 | u :: us, x :: ks, v, k, i, h => by
  rw [List.cons_append, List.cons_append]
  unfold ptO
  rw [ptO_snoc d us ks v k (i + 1) (by simpa using h)]
  simp only [List.append_assoc, List.length_cons, show i + 1 + us.length = i + (us.length + 1) by omega]
theorem ptA_len (d : Nat) : ∀ (us ws : List Vt) (i : Nat), (ptA cl ln ix us d i).length ≤ (ptA cl ln ix (us ++ ws) d i).length
 | [], ws, i => by simp [ptA]
 | u :: us, ws, i => by
  rw [List.cons_append]
  unfold ptA
  have := ptA_len d us ws (i + 1)
  simp only [List.length_append]
  omega
theorem ptO_len (d : Nat) : ∀ (us ws : List Vt) (ks js : List ByteArray) (i : Nat), ks.length = us.length → (ptO cl ln ix us ks d i).length ≤ (ptO cl ln ix (us ++ ws) (ks ++ js) d i).length
 | [], ws, [], js, i, _ => by simp [ptO]
 | [], _, _ :: _, _, _, h => by simp at h
 | _ :: _, _, [], _, _, h => by simp at h
 | u :: us, ws, x :: ks, js, i, h => by
  rw [List.cons_append, List.cons_append]
  unfold ptO
  have := ptO_len d us ws ks js (i + 1) (by simpa using h)
  simp only [List.length_append]
  omega
theorem ptA_take (d : Nat) {vs : List Vt} {q : Nat} {u : Vt} (h : vs[q]? = some u) : ptA cl ln ix (vs.take (q + 1)) d 0 = ptA cl ln ix (vs.take q) d 0 ++ (((if 0 < q then [44] else []) ++ fdL ln ix (d + 1)) ++ ptV cl ln ix u (d + 1)) := by
 have hl := (List.getElem?_eq_some_iff.1 h).1
 rw [List.take_add_one, h]
 have := ptA_snoc (cl := cl) (ln := ln) (ix := ix) d (vs.take q) u 0
 rw [List.length_take, Nat.min_eq_left (by omega), Nat.zero_add] at this
 exact this
theorem ptO_take (d : Nat) {vs : List Vt} {ks : List ByteArray} {q : Nat} {u : Vt} {k : ByteArray} (hl : ks.length = vs.length) (h : vs[q]? = some u) (hk : ks[q]? = some k) : ptO cl ln ix (vs.take (q + 1)) (ks.take (q + 1)) d 0 = ptO cl ln ix (vs.take q) (ks.take q) d 0 ++ (((if 0 < q then [44] else []) ++ fdL ln ix (d + 1)) ++ (quoL k ++ (cl.data.toList ++ ptV cl ln ix u (d + 1)))) := by
 have hq := (List.getElem?_eq_some_iff.1 h).1
 rw [List.take_add_one, List.take_add_one, h, hk]
 have := ptO_snoc (cl := cl) (ln := ln) (ix := ix) d (vs.take q) (ks.take q) u k 0 (by rw [List.length_take, List.length_take, hl])
 rw [List.length_take, Nat.min_eq_left (by omega), Nat.zero_add] at this
 exact this
theorem ptA_part (d : Nat) (vs : List Vt) (q : Nat) : (ptA cl ln ix (vs.take q) d 0).length ≤ (ptA cl ln ix vs d 0).length := by
 have := ptA_len (cl := cl) (ln := ln) (ix := ix) d (vs.take q) (vs.drop q) 0
 rwa [List.take_append_drop] at this
theorem ptO_part (d : Nat) (vs : List Vt) (ks : List ByteArray) (hl : ks.length = vs.length) (q : Nat) : (ptO cl ln ix (vs.take q) (ks.take q) d 0).length ≤ (ptO cl ln ix vs ks d 0).length := by
 have := ptO_len (cl := cl) (ln := ln) (ix := ix) d (vs.take q) (vs.drop q) (ks.take q) (ks.drop q) 0 (by rw [List.length_take, List.length_take, hl])
 rwa [List.take_append_drop, List.take_append_drop] at this
end
/-- The value's lists lie below the heap's end. -/
theorem ValAt.on {w : World} {t : Vt} {v : Value} (h : ValAt w t v) : ValOn (fun c => c < w.heap.size) w t v := by
 induction h with
 | mk k b r t ks vs ko kc vo vc X hw hz hk hr hv ih =>
  refine .mk k b r t ks vs ko kc vo vc X hw hz (fun i s hi => ?_) (fun i hi => ?_) ih
  ·obtain ⟨h0, b, off, h1, h2, h3⟩ := hk i s hi
   exact ⟨h0, b, off, h1, h2, h2, h3⟩
  ·obtain ⟨h0, b, off, h1, h2, h3⟩ := hr i hi
   exact ⟨h0, b, off, h1, h2, h2, h3⟩
/-- What a value is behind the interface. -/
def kdI (k : Int) (b : Bool) (r t : ByteArray) (ks vs : Value) : Value := if k = 4 then .iface 75 (.string t) else if k = 5 then .iface 77 vs else if k = 6 then .iface 80 (.agg #[ks, vs]) else .iface 74 (.string (wordL k b r))
theorem kind_calls (k : Int) (h1 : 1 ≤ k) (h6 : k ≤ 6) (b : Bool) (r t : ByteArray) (ko vo : Option Addr) (N kc M vc : Nat) (w : World) :
  Calls Tryz.prog 32 #[.agg #[.int .i64 k, .bool b, .string r, .string t, .slice ko N kc, .slice vo M vc]] w fun e w' => e = .returned (kdI k b r t (.slice ko N kc) (.slice vo M vc)) ∧ Below w.heap.size w w' := by
 have hk : k = 1 ∨ k = 2 ∨ k = 3 ∨ k = 4 ∨ k = 5 ∨ k = 6 := by omega
 rcases hk with rfl | rfl | rfl | rfl | rfl | rfl
 ·exact kind_null b r t ko vo N kc M vc w
 ·cases b with
  | true => exact kind_true r t ko vo N kc M vc w
  | false => exact kind_false r t ko vo N kc M vc w
 ·exact kind_num b r t ko vo N kc M vc w
 ·exact kind_text b r t ko vo N kc M vc w
 ·exact kind_arr b r t ko vo N kc M vc w
 ·exact kind_obj b r t ko vo N kc M vc w
end Go.Proofs.YtlhbgfhmcjaabaaGreatDoor
