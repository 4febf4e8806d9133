/-
  The document's pattern: Learn, whatever the key; what Learn leaves is one thing alone.
-/
import Derived.Test.YtiggfigjibggaaaHrD
namespace Go.Proofs.Ytiggfigjibggaaa
open Go.RowKit Go.Shelf Go.Maps

theorem learnR_calls (qb : Nat) (S : Nat → Prop) (room came : Nat) (L : List Ent) (hok : ∀ e ∈ L, EnOk e) (hlen : L.length ≤ room) (hr : room ≤ 4096) (hasc : L.Pairwise (fun x y => x.a < y.a)) (r n : ByteArray) (p : Nat) (hp : p ≤ 9223372036854775807) (w : World) (hP : RfM w qb S room L) :
    Calls Try.prog 37 #[ptB qb, .string r, .string n, .int .i64 (p : Int)] w fun e w' => LeR qb S room came L r n p w e w' := by
  obtain ⟨k, ⟨-, hno⟩ | ⟨A, x, B, rfl, -, ⟨rfl, rfl⟩, hA⟩⟩ := fnd_ex L r n
  · by_cases h0 : room = 0
    · subst h0
      obtain rfl : L = [] := List.length_eq_zero_iff.1 (by omega)
      exact learnR_none qb S came r n p hp w (hid hP)
    · by_cases h1 : L.length < room
      · exact learnR_room qb S room came L h1 hr r n hno p hp w (hid hP)
      · obtain rfl : L.length = room := by omega
        exact learnR_full qb S L.length came L (hid rfl) (by omega) hr (hid hasc) r n (hid hno) p hp w (hid hP)
  · exact learnR_yes qb S room came A x B (by simp at hlen; omega) (hok x (by simp)).2.2 hA p hp w (hid hP)
theorem split_oneR {α : Type} {A A' B B' : List α} {x x' : α} (h : A ++ x :: B = A' ++ x' :: B') (hl : A.length = A'.length) : A = A' ∧ x = x' ∧ B = B' := by
  obtain ⟨h1, h2⟩ := List.append_inj h hl
  simp at h2
  exact ⟨h1, h2.1, h2.2⟩
theorem split_posR {α : Type} {R : α → α → Prop} {L A A' B B' : List α} {x x' : α} (hR : L.Pairwise (fun a b => ¬ R a b ∧ ¬ R b a)) (h : L = A ++ x :: B) (h' : L = A' ++ x' :: B') (hx : R x x') (hx' : R x' x) : A = A' ∧ x = x' ∧ B = B' := by
  have x1 : L[A.length]? = some x := by rw [h]; simp
  have x2 : L[A'.length]? = some x' := by rw [h']; simp
  obtain ⟨l1, e1⟩ := List.getElem?_eq_some_iff.1 x1
  obtain ⟨l2, e2⟩ := List.getElem?_eq_some_iff.1 x2
  refine split_oneR (h.symm.trans h') ?_
  rw [List.pairwise_iff_getElem] at hR
  rcases Nat.lt_trichotomy A.length A'.length with hl | hl | hl
  · have := (hR _ _ l1 l2 hl).1
    rw [e1, e2] at this
    exact absurd hx this
  · exact hl
  · have := (hR _ _ l2 l1 hl).1
    rw [e1, e2] at this
    exact absurd hx' this
theorem lrn_uniq {room came c c' : Nat} {L M M' : List Ent} {r n : ByteArray} {p : Nat} (hk : L.Pairwise (fun x y => ¬ (x.r = y.r ∧ x.n = y.n))) (hasc : L.Pairwise (fun x y => x.a < y.a)) (h : Lrn room came L r n p c M) (h' : Lrn room came L r n p c' M') : c = c' ∧ M = M' := by
  have hk2 : L.Pairwise (fun x y => ¬ (x.r = y.r ∧ x.n = y.n) ∧ ¬ (y.r = x.r ∧ y.n = x.n)) := hk.imp (fun {a b} h => ⟨h, fun e => h ⟨e.1.symm, e.2.symm⟩⟩)
  have ha2 : L.Pairwise (fun x y => ¬ (x.a = y.a) ∧ ¬ (y.a = x.a)) := hasc.imp (fun {a b} h => ⟨by omega, by omega⟩)
  rcases h with ⟨A, e, B, hL, h1, h2, rfl, rfl⟩ | ⟨hno, h⟩
  · rcases h' with ⟨A', e', B', hL', h1', h2', rfl, rfl⟩ | ⟨hno', -⟩
    · obtain ⟨rfl, rfl, rfl⟩ := split_posR (R := fun x y : Ent => x.r = y.r ∧ x.n = y.n) hk2 hL hL' ⟨h1.trans h1'.symm, h2.trans h2'.symm⟩ ⟨h1'.trans h1.symm, h2'.trans h2.symm⟩
      exact ⟨rfl, rfl⟩
    · exact absurd ⟨h1, h2⟩ (hno' e (by rw [hL]; simp))
  · rcases h' with ⟨A', e', B', hL', h1', h2', rfl, rfl⟩ | ⟨-, h'⟩
    · exact absurd ⟨h1', h2'⟩ (hno e' (by rw [hL']; simp))
    · rcases h with ⟨h0, rfl, rfl⟩ | ⟨h0, L1, hr, rfl, rfl⟩
      · rcases h' with ⟨-, rfl, rfl⟩ | ⟨h0', -⟩
        · exact ⟨rfl, rfl⟩
        · omega
      · rcases h' with ⟨h0', -⟩ | ⟨-, L1', hr', rfl, rfl⟩
        · omega
        · have : L1 = L1' := by
            rcases hr with ⟨hl, rfl⟩ | ⟨hl, A, f, B, hL, hf, rfl⟩
            · rcases hr' with ⟨-, rfl⟩ | ⟨hl', -⟩
              · rfl
              · omega
            · rcases hr' with ⟨hl', -⟩ | ⟨-, A', f', B', hL', hf', rfl⟩
              · omega
              · have e1 := hf f' (by rw [hL']; simp)
                have e2 := hf' f (by rw [hL]; simp)
                have e3 : f.a = f'.a := by unfold ahd at e1 e2; omega
                obtain ⟨rfl, -, rfl⟩ := split_posR (R := fun x y : Ent => x.a = y.a) ha2 hL hL' e3 e3.symm
                rfl
          exact ⟨rfl, by rw [this]⟩
end Go.Proofs.Ytiggfigjibggaaa
