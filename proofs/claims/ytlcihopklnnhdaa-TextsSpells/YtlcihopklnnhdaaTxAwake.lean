/-
  What the document's own texts come to (awake); where a text ends is one place.
-/
import Derived.Test.YtlcihopklnnhdaaTxProg
namespace Go.Proofs.Ytlcihopklnnhdaa
open Go.RowKit Go.Shelf

theorem un_awake : unS ⟨#[97, 92, 110, 92, 117, 48, 48, 52, 49]⟩ = (⟨#[97, 10, 65]⟩, 0) := by decide +kernel
theorem wr_awake : wrS ⟨#[34]⟩ = (⟨#[92, 34]⟩, 0) := by decide +kernel
theorem un_a : unS ⟨#[92, 117, 48, 48, 54, 49]⟩ = (⟨#[97]⟩, 0) := by decide +kernel

set_option maxRecDepth 10000 in
theorem awake15_calls (w : World) (h15 : Ok15 w) :
    Calls Try.prog 11 #[] w fun e w' => e = .returned (.bool true) ∧ Below w.heap.size w w' := by
  have h15' := hid h15
  go_enter Try.func11, Try.ntmps11
  go_wp2_with fail
  refine (un_calls _ (by decide) _ _ (hid un_awake) _ h15'.out).mono ?_
  rintro e w1 ⟨rfl, hb1⟩
  have hb1' := hid hb1
  clear hb1
  go_wp2_with fail
  refine (es_calls _ (by decide) _ _ (hid wr_awake) _ (h15'.out.below hb1'.out)).mono ?_
  rintro e w2 ⟨rfl, hb2⟩
  have hb2' := hid (hb1'.out.trans (hb2.mono hb1'.out.size))
  clear hb2
  go_wp2
  go_ret
  exact ⟨rfl, hb2'.out⟩

theorem IsEnd.uniq {s : ByteArray} {f n n' E E' : Int} (h : IsEnd s f n E) (h' : IsEnd s f n' E') : n = n' ∧ E = E' := by
  rcases h with ⟨h1, h2, h3⟩ | ⟨k, rfl, hk, h⟩ <;> rcases h' with ⟨g1, g2, g3⟩ | ⟨k', hf, hk', h'⟩
  · exact ⟨by rw [h2, g2], by rw [h3, g3]⟩
  · subst hf; omega
  · omega
  · obtain rfl : k = k' := by omega
    rcases h with ⟨i, a1, a2, a3, a4, a5, a6⟩ | ⟨a1, a2, a3⟩ <;> rcases h' with ⟨j, b1, b2, b3, b4, b5, b6⟩ | ⟨b1, b2, b3⟩
    · rcases Nat.lt_trichotomy i j with h | h | h
      · exact absurd ⟨a2, a3⟩ (b4 i h)
      · subst h
        exact ⟨by rw [a5, b5], by rw [a6, b6]⟩
      · exact absurd ⟨b2, b3⟩ (a4 j h)
    · exact absurd ⟨a2, a3⟩ (b1 i a1)
    · exact absurd ⟨b2, b3⟩ (a1 j b1)
    · exact ⟨by rw [a2, b2], by rw [a3, b3]⟩
end Go.Proofs.Ytlcihopklnnhdaa
