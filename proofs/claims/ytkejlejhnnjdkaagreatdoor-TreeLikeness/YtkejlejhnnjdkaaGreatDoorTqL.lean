/-
 TreeParses: the two readings beside one another; what is asked first: a small document and its value (by gen_tql.py).
-/
import Derived.Test.YtkejlejhnnjdkaaGreatDoorTqI
import Derived.Test.YtkejlejhnnjdkaaGreatDoorPack8
namespace Go.Proofs.YtkejlejhnnjdkaaGreatDoor
open Go.RowKit Go.Shelf
def smallS : ByteArray := ⟨#[123, 34, 97, 34, 32, 58, 32, 91, 49, 46, 48, 44, 32, 116, 114, 117, 101, 93, 44, 32, 34, 98, 34, 58, 110, 117, 108, 108, 125]⟩
theorem chk_validT {s : ByteArray} {d : Int} (m : Mc) (h1 : 1 ≤ d) (h2 : d ≤ 1024) (hr : runM mc0 (byts s) = (s.size, m)) (hw : wholeM m = true) (hd : ∀ j, j < s.size → ((depS s (j + 1) : Nat) : Int) ≤ d) : IsChk s d 1 s.size 0 :=
 .inr ⟨⟨h1, h2⟩, rfl, _, m, hr, .inr ⟨rfl, hw, .inr ⟨hd, rfl, rfl⟩⟩⟩
theorem run_eqT {l : List Nat} {k : Nat} (h : (runM mc0 l).1 = k) : runM mc0 l = (k, (runM mc0 l).2) := Prod.ext h rfl
theorem chkSmall : IsChk smallS 2 1 29 0 := chk_validT (s := smallS) _ (by decide) (by decide) (run_eqT (by decide +kernel)) (by decide +kernel) (by decide +kernel)
theorem chkOpen : IsChk ⟨#[91]⟩ 2 2 1 0 := .inr ⟨⟨by decide, by decide⟩, rfl, 1, _, run_eqT (by decide +kernel), .inl ⟨.inr (by decide +kernel), rfl, rfl⟩⟩
theorem skip_of {s : ByteArray} {j k : Nat} (h1 : j ≤ k) (h2 : k < s.size) (h3 : ∀ q, q < k - j → blankN (byteAt s (j + q)) = true) (h4 : blankN (byteAt s k) = false) : IsSkip s j k :=
 ⟨h1, Nat.le_of_lt h2, fun q a b => by have := h3 (q - j) (by omega); rwa [show j + (q - j) = q by omega] at this, .inr h4⟩
def sel3 (x y z : Nat) (q : Nat) : Nat := if q = 0 then x else if q = 1 then y else z
theorem two_cases {P : Nat → Prop} (h0 : P 0) (h1 : P 1) : ∀ q, q < 2 → P q := fun q h => by
 match q, h with
 | 0, _ => exact h0
 | 1, _ => exact h1
theorem two_get {α : Type} {x y : α} {P : Nat → α → Prop} (h0 : P 0 x) (h1 : P 1 y) : ∀ (q : Nat) (u : α), [x, y][q]? = some u → P q u := fun q u h => by
 match q, h with
 | 0, h => simp at h; subst h; exact h0
 | 1, h => simp at h; subst h; exact h1
theorem pvSmall : PV smallS 0 smallT 29 := by
 have n1 : PV smallS 8 (.mk 3 false ⟨#[49, 46, 48]⟩ ⟨#[]⟩ [] []) 11 := by
  have h := PV.num (s := smallS) 8 11 (by decide) (by decide +kernel) (by decide +kernel) (by decide) (by decide)
  rwa [show smallS.extract 8 11 = ⟨#[49, 46, 48]⟩ by decide +kernel] at h
 have n2 : PV smallS 13 (.mk 2 true ⟨#[]⟩ ⟨#[]⟩ [] []) 17 := PV.yes 13 (by decide +kernel) (by decide)
 have n3 : PV smallS 7 (.mk 5 false ⟨#[]⟩ ⟨#[]⟩ [] [.mk 3 false ⟨#[49, 46, 48]⟩ ⟨#[]⟩ [] [], .mk 2 true ⟨#[]⟩ ⟨#[]⟩ [] []]) 18 :=
  PV.arr 7 _ (sel3 8 11 17) (sel3 8 13 0) (sel3 11 17 0) (by decide +kernel) (skip_of (by decide) (by decide) (by decide) (by decide +kernel))
   (two_cases ⟨by decide +kernel, by decide, skip_of (by decide +kernel) (by decide) (by decide +kernel) (by decide +kernel), by decide⟩ ⟨by decide +kernel, by decide, skip_of (by decide +kernel) (by decide) (by decide +kernel) (by decide +kernel), by decide⟩)
   (two_get n1 n2) (two_cases (skip_of (by decide) (by decide) (by decide) (by decide +kernel)) (skip_of (by decide) (by decide) (by decide) (by decide +kernel))) (by decide +kernel) (by decide)
 have n4 : PV smallS 24 (.mk 1 false ⟨#[]⟩ ⟨#[]⟩ [] []) 28 := PV.null 24 (by decide +kernel) (by decide)
 have k1 : Txt smallS 1 4 ⟨#[97]⟩ := ⟨by decide +kernel, 3, .step 2 3 (by decide) (by decide +kernel) (by decide +kernel) (.stop 3 (by decide) (by decide +kernel)), rfl, by decide +kernel⟩
 have k2 : Txt smallS 20 23 ⟨#[98]⟩ := ⟨by decide +kernel, 22, .step 21 22 (by decide) (by decide +kernel) (by decide +kernel) (.stop 22 (by decide) (by decide +kernel)), rfl, by decide +kernel⟩
 exact PV.obj 0 [⟨#[97]⟩, ⟨#[98]⟩] _ rfl (sel3 1 18 28) (sel3 1 20 0) (sel3 4 23 0) (sel3 5 23 0) (sel3 7 24 0) (sel3 18 28 0) (by decide +kernel) (skip_of (by decide) (by decide) (by decide) (by decide +kernel))
   (two_cases ⟨by decide +kernel, by decide, skip_of (by decide +kernel) (by decide) (by decide +kernel) (by decide +kernel), by decide, skip_of (by decide) (by decide) (by decide +kernel) (by decide +kernel), by decide, skip_of (by decide) (by decide) (by decide +kernel) (by decide +kernel), by decide⟩ ⟨by decide +kernel, by decide, skip_of (by decide +kernel) (by decide) (by decide +kernel) (by decide +kernel), by decide, skip_of (by decide) (by decide) (by decide +kernel) (by decide +kernel), by decide, skip_of (by decide) (by decide) (by decide +kernel) (by decide +kernel), by decide⟩)
   (two_get k1 k2) (two_get n3 n4) (two_cases (skip_of (by decide) (by decide) (by decide) (by decide +kernel)) (skip_of (by decide) (by decide) (by decide) (by decide +kernel))) (by decide +kernel) (by decide)
theorem parSmall : IsPar smallS 1 smallT := .inl ⟨rfl, 0, 29, skip_of (by decide) (by decide) (by decide) (by decide +kernel), pvSmall⟩
theorem parOpen : IsPar ⟨#[91]⟩ 2 vt0 := .inr ⟨by decide, rfl⟩
end Go.Proofs.YtkejlejhnnjdkaaGreatDoor
