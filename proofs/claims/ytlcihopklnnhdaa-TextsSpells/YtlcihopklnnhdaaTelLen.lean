/-
  A text tells no more characters than it has bytes.
-/
import Derived.Test.YtlcihopklnnhdaaUtf8Walk
namespace Go.Proofs.Ytlcihopklnnhdaa

theorem tel_len (s : ByteArray) : (telOf s).length ≤ s.size := by
  have key : ∀ (l : List Nat) (q : Q5) (p r i : Nat), (tel q p r i l).length ≤ l.length := by
    intro l
    induction l with
    | nil => intro q p r i; rw [tel]; exact Nat.le_refl _
    | cons x l ih =>
      intro q p r i
      rw [tel]
      cases stp q x with
      | none => exact Nat.zero_le _
      | some q' =>
        show (if q'.left = 0 then _ else _ : List (Nat × Nat)).length ≤ _
        split
        · have := ih q' (i + 1) (if i = p then x &&& (127 >>> q'.left) else r * 64 + x % 64) (i + 1)
          simp only [List.length_cons]
          omega
        · have := ih q' p (if i = p then x &&& (127 >>> q'.left) else r * 64 + x % 64) (i + 1)
          simp only [List.length_cons]
          omega
  have := key (byts s) s5.q 0 0 0
  rw [byts_length] at this
  exact this
end Go.Proofs.Ytlcihopklnnhdaa
