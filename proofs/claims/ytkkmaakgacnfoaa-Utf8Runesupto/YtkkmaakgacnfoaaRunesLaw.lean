/-
  Utf8Runes: Runes, begun again and again, left anywhere, within itself too.
-/
import Derived.Test.YtkkmaakgacnfoaaToldU
import Derived.Test.YtkkmaakgacnfoaaRefWalk
namespace Go.Proofs.Ytkkmaakgacnfoaa
open Go.RowKit Go.Shelf

/-- Rows as lists. -/
theorem rows_lists {w : World} {B : Nat} {v u : Value} {T : List (Nat × Nat)} (h : Rows5 B w v u T) : ∃ ao bo cap cap2, v = .slice ao T.length cap ∧ u = .slice bo T.length cap2 ∧ ListsAt w ao bo T := by
  obtain ⟨h1, h2⟩ := h
  have l1 := h1.lt
  have l2 := h2.lt
  rcases h1.2 with ⟨rfl, e1⟩ | ⟨g, cap, cur, rfl, hb, hgb, h3⟩
  · rcases h2.2 with ⟨rfl, e2⟩ | ⟨g2, cap2, cur2, rfl, hb2, hgb2, h32⟩
    · exact ⟨none, none, 0, 0, by rw [e1], by rw [e1], fun j P C hj => by rw [List.eq_nil_of_length_eq_zero e1] at hj; simp at hj⟩
    · exact ⟨none, some ⟨g2, 0, none⟩, 0, cap2, by rw [e1], rfl, fun j P C hj => by rw [List.eq_nil_of_length_eq_zero e1] at hj; simp at hj⟩
  · rcases h2.2 with ⟨rfl, e2⟩ | ⟨g2, cap2, cur2, rfl, hb2, hgb2, h32⟩
    · exact ⟨some ⟨g, 0, none⟩, none, cap, 0, rfl, by rw [e2], fun j P C hj => by rw [List.eq_nil_of_length_eq_zero e2] at hj; simp at hj⟩
    · refine ⟨_, _, cap, cap2, rfl, rfl, fun j P C hj => ⟨g, g2, rfl, rfl, (l1 g rfl).2, (l2 g2 rfl).2, ?_, ?_⟩⟩
      · have := h1.cells (g := g) rfl j (.int .i64 ((P : Nat) : Int)) (by simp [ints5, hj])
        rwa [show (⟨g, 0, none⟩ : Addr).add j = ⟨g, j, none⟩ by by_cases h : j = 0 <;> simp [Addr.add, h]] at this
      · have := h2.cells (g := g2) rfl j (.int .i32 ((C : Nat) : Int)) (by simp [runes5, hj])
        rwa [show (⟨g2, 0, none⟩ : Addr).add j = ⟨g2, j, none⟩ by by_cases h : j = 0 <;> simp [Addr.add, h]] at this
theorem tel_len (s : ByteArray) : (telOf s).length ≤ s.size := by
  have key : ∀ (l : List Nat) (q : Q5) (p r i : Nat), (tel q p r i l).length ≤ l.length := by
    intro l
    induction l with
    | nil => intro q p r i; rw [tel]; exact Nat.le_refl _
    | cons x l ih =>
      intro q p r i
      rw [tel]
      cases stp q x with
      | none => exact Nat.zero_le _
      | some q' =>
        show (if q'.left = 0 then _ else _ : List (Nat × Nat)).length ≤ _
        split
        · have := ih q' (i + 1) (if i = p then x &&& (127 >>> q'.left) else r * 64 + x % 64) (i + 1)
          simp only [List.length_cons]
          omega
        · have := ih q' p (if i = p then x &&& (127 >>> q'.left) else r * 64 + x % 64) (i + 1)
          simp only [List.length_cons]
          omega
  have := key (byts s) s5.q 0 0 0
  rw [byts_length] at this
  exact this
/-- The two lists that are written out. -/
theorem lists_two (w : World) (x y : Obj) (hx : x = .cells #[.int .i64 0, .int .i64 2] 3) (hy : y = .cells #[.int .i32 233, .int .i32 97] 21) : ListsAt ((w.alloc x).alloc y) (some ⟨w.heap.size, 0, none⟩) (some ⟨w.heap.size + 1, 0, none⟩) (telOf ⟨#[195, 169, 97, 255]⟩) := by
  have e : telOf ⟨#[195, 169, 97, 255]⟩ = [(0, 233), (2, 97)] := by decide
  rw [e]
  subst hx hy
  have a1 := (At.new w #[.int .i64 0, .int .i64 2] 3).alloc (.cells #[.int .i32 233, .int .i32 97] 21)
  have a2 := At.new (w.alloc (.cells #[.int .i64 0, .int .i64 2] 3)) #[.int .i32 233, .int .i32 97] 21
  rw [show (w.alloc (.cells #[.int .i64 0, .int .i64 2] 3)).heap.size = w.heap.size + 1 by simp] at a2
  intro j P C hj
  match j, hj with
  | 0, hj => cases hj; exact ⟨_, _, rfl, rfl, a1.lt, a2.lt, a1.cell 0, a2.cell 0⟩
  | 1, hj => cases hj; exact ⟨_, _, rfl, rfl, a1.lt, a2.lt, a1.cell 1, a2.cell 1⟩

set_option maxRecDepth 100000 in
set_option maxHeartbeats 4000000 in
theorem utf8Runes_walk (a0 : ByteArray) (h0 : a0.size ≤ 1048576) (a1 : Int) (_w1 : (Lit.int .i64 a1).wf = true) (w : World) :
    Calls Try.prog 5 #[.string a0, .int .i64 a1] w fun e w' => e = .returned (.bool true) ∧ Below w.heap.size w w' := by
  have hnf : ∀ (f : Fn) (a b : Array Value) (w : World), Sem.run Try.prog (binOp BinOp.eql 36 (.func f a b) .nilFunc) w = .ok (.bool false) w := fun _ _ _ _ => by rfl
  have hone : Hid ((telOf ⟨#[195, 169, 97, 255]⟩).length = 2) := hid (by decide)
  have hlen := hid (tel_len a0)
  go_enter Try.func5, Try.ntmps5
  go_wp2_with fail
  refine (runes_calls ⟨#[195, 169, 97, 255]⟩ w).mono ?_
  rintro e w1 ⟨rfl, hw1⟩
  have hA1 := hid (show At w1 w.heap.size #[.string ⟨#[195, 169, 97, 255]⟩] 9 by rw [hw1]; exact At.new _ _ _)
  have hB1 := hid (show Below w.heap.size w w1 by rw [hw1]; exact (Below.refl _ _).alloc (Nat.le_refl _) _)
  clear hw1
  go_wp2_with fail
  have hb2 := hid (show Below w1.heap.size w1 ((w1.alloc (.cells #[.int .i64 0, .int .i64 2] 3)).alloc (.cells #[.int .i32 233, .int .i32 97] 21)) from ((Below.refl _ _).alloc (Nat.le_refl _) _).alloc (by simp) _)
  refine (toldU_calls ⟨#[195, 169, 97, 255]⟩ (by decide) w.heap.size 2 2 2 _ _ hone (by decide) 1 (by decide) 0 _ (hA1.out.keptAll hb2.out) (lists_two w1 _ _ rfl rfl)).mono ?_
  rintro e w2 ⟨rfl, hb3⟩
  have hA2 := hid ((hA1.out.keptAll hb2.out).keptAll hb3)
  have hB2 := hid (show Below w.heap.size w w2 from (hB1.out.trans (hb2.out.mono hB1.out.size)).trans (hb3.mono (Nat.le_trans hB1.out.size hb2.out.size)))
  clear hb3 hb2 hA1 hB1
  go_wp2_with fail
  refine (walk_calls a0 (by omega) _).mono ?_
  rintro e w3 ⟨v, u, rfl, hR, hb3⟩
  obtain ⟨ao, bo, cap, cap2, rfl, rfl, hL⟩ := rows_lists hR
  have hA3 := hid (hA2.out.keptAll hb3)
  have hB3 := hid (hB2.out.trans (hb3.mono hB2.out.size))
  have hL3 := hid hL
  obtain ⟨N, hN⟩ : ∃ N, (telOf a0).length = N := ⟨_, rfl⟩
  rw [hN]
  have hN' := hid hN
  have hNb : N ≤ 9223372036854775000 := by have := hlen.out; omega
  have hNb' := hid hNb
  clear hR hb3 hL hA2 hB2 hN hNb
  go_wp2_with fail
  refine (runes_calls a0 w3).mono ?_
  rintro e w4 ⟨rfl, hw4⟩
  have hb4 : Below w3.heap.size w3 w4 := by rw [hw4]; exact (Below.refl _ _).alloc (Nat.le_refl _) _
  have hS4 := hid (show At w4 w3.heap.size #[.string a0] 9 by rw [hw4]; exact At.new _ _ _)
  have hA4 := hid (hA3.out.keptAll hb4)
  have hB4 := hid (hB3.out.trans (hb4.mono hB3.out.size))
  have hL4 := hid (hL3.out.kept hb4)
  clear hw4 hb4 hA3 hB3 hL3
  generalize w3.heap.size = Bs at *
  have hsz : a0.size < 9223372036854775807 := by omega
  have hsz' := hid hsz
  clear hsz h0 hlen
  go_wp2_with fail
  refine (toldU_calls a0 hsz'.out Bs N cap cap2 ao bo hN' hNb'.out 1 (by decide) a1 _ hS4.out hL4.out).mono ?_
  rintro e w5 ⟨rfl, hb⟩
  have hS5 := hid (hS4.out.keptAll hb)
  have hA5 := hid (hA4.out.keptAll hb)
  have hB5 := hid (hB4.out.trans (hb.mono hB4.out.size))
  have hL5 := hid (hL4.out.kept hb)
  clear hb hS4 hA4 hB4 hL4
  go_wp2_with fail
  refine (toldU_calls a0 hsz'.out Bs N cap cap2 ao bo hN' hNb'.out 0 (by decide) 0 _ hS5.out hL5.out).mono ?_
  rintro e w6 ⟨rfl, hb⟩
  have hS6 := hid (hS5.out.keptAll hb)
  have hA6 := hid (hA5.out.keptAll hb)
  have hB6 := hid (hB5.out.trans (hb.mono hB5.out.size))
  have hL6 := hid (hL5.out.kept hb)
  clear hb hS5 hA5 hB5 hL5
  go_wp2_with fail
  have hb2 := hid (show Below w6.heap.size w6 ((w6.alloc (.cells #[.int .i64 0, .int .i64 2] 3)).alloc (.cells #[.int .i32 233, .int .i32 97] 21)) from ((Below.refl _ _).alloc (Nat.le_refl _) _).alloc (by simp) _)
  refine (toldU_calls ⟨#[195, 169, 97, 255]⟩ (by decide) w.heap.size 2 2 2 _ _ hone (by decide) 0 (by decide) 1 _ (hA6.out.keptAll hb2.out) (lists_two w6 _ _ rfl rfl)).mono ?_
  rintro e w7 ⟨rfl, hb3⟩
  have hS7 := hid ((hS6.out.keptAll hb2.out).keptAll hb3)
  have hB7 := hid ((hB6.out.trans (hb2.out.mono hB6.out.size)).trans (hb3.mono (Nat.le_trans hB6.out.size hb2.out.size)))
  have hL7 := hid ((hL6.out.kept hb2.out).kept hb3)
  clear hb2 hb3 hS6 hA6 hB6 hL6
  go_wp2_with fail
  refine (toldU_calls a0 hsz'.out Bs N cap cap2 ao bo hN' hNb'.out 2 (by decide) 3 _ hS7.out hL7.out).mono ?_
  rintro e w8 ⟨rfl, hb⟩
  have hB8 := hid (hB7.out.trans (hb.mono hB7.out.size))
  clear hb hS7 hB7 hL7
  go_wp2
  go_ret
  exact ⟨rfl, hB8.out⟩
end Go.Proofs.Ytkkmaakgacnfoaa
