/-
  The walk of quarrylaw10.LevelsKeeps.
-/
import Derived.Test.YtodhekdnbenobaaDoorApartLv
import Derived.Test.YtodhekdnbenobaaDoorApartI
import Derived.Test.YtodhekdnbenobaaDoorPack1
namespace Go.Proofs.YtodhekdnbenobaaDoor
open Go.RowKit Go.Shelf

def aa6 (a0 a1 a2 a3 a4 a5 : Nat) (p : Nat) : Nat := if p = 0 then a0 else if p = 1 then a1 else if p = 2 then a2 else if p = 3 then a3 else if p = 4 then a4 else a5
def tx6 (s t : ByteArray) (p : Nat) : ByteArray := if p = 2 ∨ p = 3 then t else s
def nn6 (s t : ByteArray) (p : Nat) : Nat := (tx6 s t p).size
def ff6 (s t : ByteArray) (p k : Nat) : Nat → Nat := rowOf (lvS (if p % 2 = 0 then 58 else 44) (tx6 s t p) (k + 1)) (nn6 s t p)
/-- The three Levels in their variables, and the span. -/
structure LkS (w : World) (s t : ByteArray) (m hi a0 a1 a2 a3 a4 a5 b7 b9 b11 : Nat) (W : World) : Prop where
  l0 : LvAt W a0 m s.size (ff6 s t 0)
  l1 : LvAt W a1 m s.size (ff6 s t 1)
  l2 : LvAt W a2 m t.size (ff6 s t 2)
  l3 : LvAt W a3 m t.size (ff6 s t 3)
  l4 : LvAt W a4 m s.size (ff6 s t 4)
  l5 : LvAt W a5 m s.size (ff6 s t 5)
  v7 : At W b7 #[.slice (some ⟨a0, 0, none⟩) m m, .slice (some ⟨a1, 0, none⟩) m m] 34
  v9 : At W b9 #[.slice (some ⟨a2, 0, none⟩) m m, .slice (some ⟨a3, 0, none⟩) m m] 34
  v11 : At W b11 #[.slice (some ⟨a4, 0, none⟩) m m, .slice (some ⟨a5, 0, none⟩) m m] 34
  b : Below w.heap.size w W
  o : w.heap.size ≤ a0 ∧ a0 + m < a1 ∧ a1 + m < a2 ∧ a2 + m < a3 ∧ a3 + m < a4 ∧ a4 + m < a5 ∧ a5 + m < hi ∧ b7 < hi ∧ b9 < hi ∧ b11 < hi ∧ hi ≤ W.heap.size
section
variable {w W W' : World} {s t : ByteArray} {m hi a0 a1 a2 a3 a4 a5 b7 b9 b11 : Nat}
theorem LvAt.over {A n hi : Nat} {F : Nat → Nat → Nat} (h : LvAt W A m n F) (hA : ∀ b cs t, At W b cs t → b < hi → At W' b cs t) (hh : A + m < hi) : LvAt W' A m n F := ⟨hA _ _ _ h.1 (by omega), fun k hk => hA _ _ _ (h.2 k hk) (by omega)⟩
theorem LkS.over (h : LkS w s t m hi a0 a1 a2 a3 a4 a5 b7 b9 b11 W) (hb : Below w.heap.size W W') (hA : ∀ b cs t, At W b cs t → b < hi → At W' b cs t) : LkS w s t m hi a0 a1 a2 a3 a4 a5 b7 b9 b11 W' := by
  obtain ⟨o1, o2, o3, o4, o5, o6, o7, o8, o9, o10, o11⟩ := h.o
  exact ⟨h.l0.over hA (by omega), h.l1.over hA (by omega), h.l2.over hA (by omega), h.l3.over hA (by omega), h.l4.over hA (by omega), h.l5.over hA (by omega), hA _ _ _ h.v7 o8, hA _ _ _ h.v9 o9, hA _ _ _ h.v11 o10, h.b.trans hb, o1, o2, o3, o4, o5, o6, o7, o8, o9, o10, Nat.le_trans o11 hb.size⟩
theorem LkS.kept (h : LkS w s t m hi a0 a1 a2 a3 a4 a5 b7 b9 b11 W) (hb : Below W.heap.size W W') : LkS w s t m hi a0 a1 a2 a3 a4 a5 b7 b9 b11 W' := h.over (hb.mono h.b.size) (fun _ _ _ h1 _ => h1.keptAll hb)
theorem LkS.six (h : LkS w s t m hi a0 a1 a2 a3 a4 a5 b7 b9 b11 W) : Lv6 w.heap.size m (aa6 a0 a1 a2 a3 a4 a5) (nn6 s t) (ff6 s t) 6 W := by
  obtain ⟨o1, o2, o3, o4, o5, o6, o7, o8, o9, o10, o11⟩ := h.o
  refine ⟨fun p hp => ?_, fun p q hpq hq => ?_, fun p hp => ?_⟩
  · match p, hp with
    | 0, _ => exact h.l0
    | 1, _ => exact h.l1
    | 2, _ => exact h.l2
    | 3, _ => exact h.l3
    | 4, _ => exact h.l4
    | 5, _ => exact h.l5
  · match p, q, hpq, hq with
    | 0, 1, _, _ => show a0 + m < a1; omega
    | 0, 2, _, _ => show a0 + m < a2; omega
    | 0, 3, _, _ => show a0 + m < a3; omega
    | 0, 4, _, _ => show a0 + m < a4; omega
    | 0, 5, _, _ => show a0 + m < a5; omega
    | 1, 2, _, _ => show a1 + m < a2; omega
    | 1, 3, _, _ => show a1 + m < a3; omega
    | 1, 4, _, _ => show a1 + m < a4; omega
    | 1, 5, _, _ => show a1 + m < a5; omega
    | 2, 3, _, _ => show a2 + m < a3; omega
    | 2, 4, _, _ => show a2 + m < a4; omega
    | 2, 5, _, _ => show a2 + m < a5; omega
    | 3, 4, _, _ => show a3 + m < a4; omega
    | 3, 5, _, _ => show a3 + m < a5; omega
    | 4, 5, _, _ => show a4 + m < a5; omega
    | p + 5, q, h1, h2 => omega
  · match p, hp with
    | 0, _ => show _ ≤ a0; omega
    | 1, _ => show _ ≤ a1; omega
    | 2, _ => show _ ≤ a2; omega
    | 3, _ => show _ ≤ a3; omega
    | 4, _ => show _ ≤ a4; omega
    | 5, _ => show _ ≤ a5; omega
end
/-- The four lists. -/
structure LkL (L1 L2 : List Nat) (x y z u : Value) (n1 n2 n3 n4 n5 : Nat) (W : World) : Prop where
  rx : W.ownsRow n1 3 1 x L1.length (ints L1)
  ry : W.ownsRow n2 3 1 y L2.length (ints L2)
  rz : W.ownsRow n3 3 1 z L1.length (ints L1)
  ru : W.ownsRow n4 3 1 u L2.length (ints L2)
  lx : ∀ g, x.ownBlock = some g → g < n2
  ly : ∀ g, y.ownBlock = some g → g < n3
  lz : ∀ g, z.ownBlock = some g → g < n4
  o : n1 ≤ n2 ∧ n2 ≤ n3 ∧ n3 ≤ n4
theorem LkL.kept {L1 L2 : List Nat} {x y z u : Value} {n1 n2 n3 n4 n5 : Nat} {W W' : World} (h : LkL L1 L2 x y z u n1 n2 n3 n4 n5 W) (hb : Below W.heap.size W W') : LkL L1 L2 x y z u n1 n2 n3 n4 n5 W' := ⟨rowz_kept h.rx hb, rowz_kept h.ry hb, rowz_kept h.rz hb, rowz_kept h.ru hb, h.lx, h.ly, h.lz, h.o⟩
theorem rowJ_intsL {W : World} {B n : Nat} {v : Value} {L : List Nat} (h : W.ownsRow B 3 1 v L.length (ints L)) (hn : L.length = n) : W.ownsRow B 3 1 v n (celL (n * 1) (fun j => .int .i64 ((L.getD j 0 : Nat) : Int))) := by
  subst hn
  have e : ints L = celL (L.length * 1) (fun j => Value.int .i64 ((L.getD j 0 : Nat) : Int)) := by
    apply List.ext_getElem?
    intro j
    rw [Nat.mul_one]
    by_cases hj : j < L.length
    · rw [celL_get _ hj]
      simp [ints, hj]
    · simp [ints, celL, hj]
  rw [← e]
  exact h
theorem LkL.rows {L1 L2 : List Nat} {x y z u : Value} {n1 n2 n3 n4 n5 B c1 c2 : Nat} {W : World} (h : LkL L1 L2 x y z u n1 n2 n3 n4 n5 W) (hB : B ≤ n1) (e1 : L1.length = c1) (e2 : L2.length = c2) :
    RowsJ 3 1 W B [⟨x, c1⟩, ⟨y, c2⟩, ⟨z, c1⟩, ⟨u, c2⟩] (fun k j => if k % 2 = 0 then .int .i64 ((L1.getD j 0 : Nat) : Int) else .int .i64 ((L2.getD j 0 : Nat) : Int)) := by
  obtain ⟨o1, o2, o3⟩ := h.o
  refine ⟨fun k q hk => ?_, fun k l q r g hk hl hx hy => ?_⟩
  · match k, hk with
    | 0, hk => simp at hk; subst hk; exact rowJ_intsL (row_base h.rx hB) e1
    | 1, hk => simp at hk; subst hk; exact rowJ_intsL (row_base h.ry (by omega)) e2
    | 2, hk => simp at hk; subst hk; exact rowJ_intsL (row_base h.rz (by omega)) e1
    | 3, hk => simp at hk; subst hk; exact rowJ_intsL (row_base h.ru (by omega)) e2
    | k + 4, hk => simp at hk
  · have key : ∀ (k : Nat) (q : RowJ), ([⟨x, c1⟩, ⟨y, c2⟩, ⟨z, c1⟩, ⟨u, c2⟩] : List RowJ)[k]? = some q → ∀ g, q.v.ownBlock = some g → (k = 0 ∧ g < n2) ∨ (k = 1 ∧ n2 ≤ g ∧ g < n3) ∨ (k = 2 ∧ n3 ≤ g ∧ g < n4) ∨ (k = 3 ∧ n4 ≤ g) := by
      intro k q hk g hg
      match k, hk with
      | 0, hk => simp at hk; subst hk; exact .inl ⟨rfl, h.lx g hg⟩
      | 1, hk => simp at hk; subst hk; exact .inr (.inl ⟨rfl, (h.ry.lt g hg).1, h.ly g hg⟩)
      | 2, hk => simp at hk; subst hk; exact .inr (.inr (.inl ⟨rfl, (h.rz.lt g hg).1, h.lz g hg⟩))
      | 3, hk => simp at hk; subst hk; exact .inr (.inr (.inr ⟨rfl, (h.ru.lt g hg).1⟩))
      | k + 4, hk => simp at hk
    have ka := key k q hk g hx
    have la := key l r hl g hy
    omega
theorem LkL.off {L1 L2 : List Nat} {x y z u : Value} {n1 n2 n3 n4 n5 b c1 c2 : Nat} {W : World} (h : LkL L1 L2 x y z u n1 n2 n3 n4 n5 W) (hb : b < n1) : ∀ (k : Nat) (q : RowJ), ([⟨x, c1⟩, ⟨y, c2⟩, ⟨z, c1⟩, ⟨u, c2⟩] : List RowJ)[k]? = some q → q.v.ownBlock ≠ some b := by
  obtain ⟨o1, o2, o3⟩ := h.o
  intro k q hk e
  match k, hk with
  | 0, hk => simp at hk; subst hk; have := (h.rx.lt b e).1; omega
  | 1, hk => simp at hk; subst hk; have := (h.ry.lt b e).1; omega
  | 2, hk => simp at hk; subst hk; have := (h.rz.lt b e).1; omega
  | 3, hk => simp at hk; subst hk; have := (h.ru.lt b e).1; omega
  | k + 4, hk => simp at hk
theorem LkL.new {L1 L2 : List Nat} {x y z u : Value} {n1 n2 n3 n4 n5 b c1 c2 : Nat} {W : World} (h : LkL L1 L2 x y z u n1 n2 n3 n4 n5 W) (hb : W.heap.size ≤ b) : ∀ (k : Nat) (q : RowJ), ([⟨x, c1⟩, ⟨y, c2⟩, ⟨z, c1⟩, ⟨u, c2⟩] : List RowJ)[k]? = some q → q.v.ownBlock ≠ some b := by
  intro k q hk e
  match k, hk with
  | 0, hk => simp at hk; subst hk; have := (h.rx.lt b e).2; omega
  | 1, hk => simp at hk; subst hk; have := (h.ry.lt b e).2; omega
  | 2, hk => simp at hk; subst hk; have := (h.rz.lt b e).2; omega
  | 3, hk => simp at hk; subst hk; have := (h.ru.lt b e).2; omega
  | k + 4, hk => simp at hk
theorem ints_atL {W : World} {B cap n : Nat} {ao : Option Addr} {L : List Nat} (h : W.ownsRow B 3 1 (.slice ao n cap) L.length (ints L)) : IntsAt W ao L := by
  obtain ⟨ao', cap', e, hI⟩ := ints_row h
  simp only [Value.slice.injEq] at e
  obtain ⟨rfl, -, -⟩ := e
  exact hI
theorem ff6_0 (s t : ByteArray) : ff6 s t 0 = fun k => rowOf (lvS 58 s (k + 1)) s.size := rfl
theorem ff6_1 (s t : ByteArray) : ff6 s t 1 = fun k => rowOf (lvS 44 s (k + 1)) s.size := rfl
theorem ff6_2 (s t : ByteArray) : ff6 s t 2 = fun k => rowOf (lvS 58 t (k + 1)) t.size := rfl
theorem ff6_3 (s t : ByteArray) : ff6 s t 3 = fun k => rowOf (lvS 44 t (k + 1)) t.size := rfl
theorem ff6_4 (s t : ByteArray) : ff6 s t 4 = fun k => rowOf (lvS 58 s (k + 1)) s.size := rfl
theorem ff6_5 (s t : ByteArray) : ff6 s t 5 = fun k => rowOf (lvS 44 s (k + 1)) s.size := rfl
theorem ff6_lt (s t : ByteArray) (p k j : Nat) : ff6 s t p k j < 18446744073709551616 := rowOf_lt _ _ _
set_option maxRecDepth 10000 in
theorem pickL_calls (i : Int) (M : Nat) (hM : 0 < M) (hM2 : M ≤ 4611686018427387904) (w : World) :
    Calls Tryd.prog 10 #[.int .i64 i, .int .i64 (M : Int)] w fun e w' => (∃ I : Nat, I < M ∧ e = .returned (.int .i64 (I : Int))) ∧ w' = w := by
  obtain ⟨r, hr⟩ : ∃ r, Hid (i.tmod (M : Int) = r) := ⟨_, rfl⟩
  have hne : ((M : Int) == 0) = false := by simp; omega
  have hr2 : -(M : Int) < r ∧ r < (M : Int) := by
    rw [← hr.out]
    refine ⟨?_, Int.tmod_lt_of_pos i (by omega)⟩
    have h1 := Int.tmod_lt_of_pos (-i) (show (0 : Int) < (M : Int) by omega)
    rw [Int.neg_tmod] at h1
    omega
  have hrm : i.tmod (M : Int) = r := hr.out
  go_enter Tryd.func10, Tryd.ntmps10
  by_cases h0 : r < 0
  · go_wp2
    go_ret
    exact ⟨⟨(r + M).toNat, by omega, by rw [show (((r + M).toNat : Nat) : Int) = r + M by omega]; rfl⟩, rfl⟩
  · go_wp2
    go_ret
    exact ⟨⟨r.toNat, by omega, by rw [show ((r.toNat : Nat) : Int) = r by omega]; rfl⟩, rfl⟩

set_option maxRecDepth 10000 in
set_option maxHeartbeats 8000000 in
theorem levelsKeeps_walk (s : ByteArray) (hs : s.size ≤ 1048576) (t : ByteArray) (ht : t.size ≤ 1048576) (a : Int) (_ : (Lit.int .i64 a).wf = true) (w : World) (hT : Tab w) (hM : TabM w) (h0 : 1 < w.heap.size) :
    Calls Tryd.prog 4 #[.string s, .string t, .int .i64 a] w fun e w' => e = .returned (.bool true) ∧ Below w.heap.size w w' := by
  have hAw := hid (awake10_calls w hT hM h0)
  have hBu := hid (fun (q : ByteArray) (hq : q.size ≤ 1048576) (m : Nat) (hm : 0 < m ∧ m ≤ 64) (w1 : World) (hb : Below w.heap.size w w1) => build_calls q (by omega) m hm.1 hm.2 w1 (hT.below hb (by omega)) (hM.below hb h0) (by have := hb.size; omega))
  have hPk := hid (pickL_calls a 64 (by decide) (by decide))
  have hT' := hid hT
  have h0' := hid h0
  have hs' := hid hs
  have ht' := hid ht
  have hsi : (s.size : Int) ≤ 1048576 := by omega
  clear hT hM h0 hs ht
  go_enter Tryd.func4, Tryd.ntmps4
  go_wp2_with fail
  refine Calls.mono hAw.out ?_
  rintro e w1 ⟨rfl, q1⟩
  have hB1 := hid q1
  clear q1 hAw
  go_wp2_with fail
  refine Calls.mono (hPk.out _) ?_
  rintro e w1x ⟨⟨I, hI, rfl⟩, hw1⟩
  obtain rfl := hw1.symm
  clear hw1 hPk
  obtain ⟨m, hmI⟩ : ∃ m, Hid (1 + I = m) := ⟨_, rfl⟩
  have hsum : (1 : Int) + (I : Int) = (m : Int) := by have := hmI.out; omega
  have hm : Hid (0 < m ∧ m ≤ 64) := by show _ ∧ _; have := hmI.out; omega
  go_wp2_with fail
  refine Calls.mono (hBu.out s hs'.out m hm.out _ hB1.out) ?_
  rintro e w2 ⟨a0, a1, rfl, hL⟩
  obtain ⟨y0, y1, l0, l1, q2⟩ := hL
  have hB2 := hB1.out.trans (q2.mono hB1.out.size)
  obtain ⟨x2, e2⟩ : ∃ V, w2.alloc (.cells #[.slice (some ⟨a0, 0, none⟩) m m, .slice (some ⟨a1, 0, none⟩) m m] 34) = V := ⟨_, rfl⟩
  have p2 : Below w2.heap.size w2 x2 := by rw [← e2]; exact (Below.refl _ _).alloc (Nat.le_refl _) _
  have v7 : Hid (At x2 w2.heap.size #[.slice (some ⟨a0, 0, none⟩) m m, .slice (some ⟨a1, 0, none⟩) m m] 34) := by rw [← e2]; exact At.new w2 _ _
  have k0 := hid (l0.kept p2)
  have k1 := hid (l1.kept p2)
  have hBx2 := hid (hB2.trans (p2.mono hB2.size))
  have o0 : Hid (w.heap.size ≤ a0 ∧ a0 + m < a1 ∧ a1 + m < w2.heap.size ∧ w2.heap.size < x2.heap.size) := by
    have h1 := l1.lt.2 (m - 1) (by have := hm.out; omega)
    have h2 := hm.out
    have h3 := hB1.out.size
    exact ⟨by omega, y1, by omega, v7.out.lt⟩
  obtain ⟨b7, hb7⟩ : ∃ b, w2.heap.size = b := ⟨_, rfl⟩
  rw [hb7] at v7 o0
  clear y0 y1 l0 l1 q2 hB2 p2 hB1
  go_wp2_with fail
  clear e2 hb7
  refine Calls.mono (hBu.out t ht'.out m hm.out _ hBx2.out) ?_
  rintro e w3 ⟨a2, a3, rfl, hL⟩
  obtain ⟨y0, y1, l0, l1, q2⟩ := hL
  have hB2 := hBx2.out.trans (q2.mono hBx2.out.size)
  obtain ⟨x3, e2⟩ : ∃ V, w3.alloc (.cells #[.slice (some ⟨a2, 0, none⟩) m m, .slice (some ⟨a3, 0, none⟩) m m] 34) = V := ⟨_, rfl⟩
  have p2 : Below w3.heap.size w3 x3 := by rw [← e2]; exact (Below.refl _ _).alloc (Nat.le_refl _) _
  have v9 : Hid (At x3 w3.heap.size #[.slice (some ⟨a2, 0, none⟩) m m, .slice (some ⟨a3, 0, none⟩) m m] 34) := by rw [← e2]; exact At.new w3 _ _
  have k2 := hid (l0.kept p2)
  have k3 := hid (l1.kept p2)
  replace v7 := hid ((v7.out.keptAll q2).keptAll p2)
  replace k0 := hid ((k0.out.kept q2).kept p2)
  replace k1 := hid ((k1.out.kept q2).kept p2)
  have hBx3 := hid (hB2.trans (p2.mono hB2.size))
  have o1 : Hid (a1 + m < a2 ∧ a2 + m < a3 ∧ a3 + m < w3.heap.size ∧ w3.heap.size < x3.heap.size ∧ b7 < x3.heap.size) := by
    have h1 := l1.lt.2 (m - 1) (by have := hm.out; omega)
    have h2 := hm.out
    have h3 := o0.out
    exact ⟨by omega, y1, by omega, v9.out.lt, v7.out.lt⟩
  obtain ⟨b9, hb9⟩ : ∃ b, w3.heap.size = b := ⟨_, rfl⟩
  rw [hb9] at v9 o1
  clear y0 y1 l0 l1 q2 hB2 p2 hBx2
  go_wp2_with fail
  clear e2 hb9
  refine Calls.mono (hBu.out s hs'.out m hm.out _ hBx3.out) ?_
  rintro e w4 ⟨a4, a5, rfl, hL⟩
  obtain ⟨y0, y1, l0, l1, q2⟩ := hL
  have hB2 := hBx3.out.trans (q2.mono hBx3.out.size)
  obtain ⟨x4, e2⟩ : ∃ V, w4.alloc (.cells #[.slice (some ⟨a4, 0, none⟩) m m, .slice (some ⟨a5, 0, none⟩) m m] 34) = V := ⟨_, rfl⟩
  have p2 : Below w4.heap.size w4 x4 := by rw [← e2]; exact (Below.refl _ _).alloc (Nat.le_refl _) _
  have v11 : At x4 w4.heap.size #[.slice (some ⟨a4, 0, none⟩) m m, .slice (some ⟨a5, 0, none⟩) m m] 34 := by rw [← e2]; exact At.new w4 _ _
  obtain ⟨b11, hb11⟩ : ∃ b, w4.heap.size = b := ⟨_, rfl⟩
  have hS : Hid (LkS w s t m x4.heap.size a0 a1 a2 a3 a4 a5 b7 b9 b11 x4) := by
    have h1 := l1.lt.2 (m - 1) (by have := hm.out; omega)
    have h2 := hm.out
    have h3 := o0.out
    have h4 := o1.out
    have h5 := q2.size
    have h6 := p2.size
    have h7 := v11.lt
    exact ⟨(k0.out.kept q2).kept p2, (k1.out.kept q2).kept p2, (k2.out.kept q2).kept p2, (k3.out.kept q2).kept p2, l0.kept p2, l1.kept p2, (v7.out.keptAll q2).keptAll p2, (v9.out.keptAll q2).keptAll p2, by rw [← hb11]; exact v11, hB2.trans (p2.mono hB2.size), by omega, by omega, by omega, by omega, by omega, y1, by omega, by omega, by omega, by omega, Nat.le_refl _⟩
  obtain ⟨hi, hhi⟩ : ∃ hi, x4.heap.size = hi := ⟨_, rfl⟩
  rw [hhi] at hS
  clear y0 y1 l0 l1 q2 hB2 p2 hBx3 v7 v9 v11 k0 k1 k2 k3 o0 o1 hhi hBu
  obtain ⟨c70, c71, -, -⟩ := hS.out.v7.factsL
  obtain ⟨c110, c111, -, -⟩ := hS.out.v11.factsL
  go_wp2_with fail
  clear e2 c70 c71 c110 c111
  refine Calls.mono (sameLv_calls m s.size hm.out.2 (by have := hs'.out; omega) _ _ _ _ m m m m _ _ x4 (hS.out.l0.rd (ff6_lt s t 0)) (hS.out.l1.rd (ff6_lt s t 1)) (hS.out.l4.rd (ff6_lt s t 4)) (hS.out.l5.rd (ff6_lt s t 5))) ?_
  rintro e x5 ⟨rfl, q5⟩
  replace hS := hid (hS.out.kept q5)
  clear q5
  have hlen5 : (s.size : Int) < 9223372036854775808 := by omega
  go_upto_region 10 with fail
  have p5 : Below x5.heap.size x5 (x5.alloc (.cells #[.int .i64 0, .int .i64 (s.size : Int)] 40)) := (Below.refl _ _).alloc (Nat.le_refl _) _
  have hV := hid (At.new x5 #[.int .i64 0, .int .i64 (s.size : Int)] 40)
  replace hS := hid (hS.out.kept p5)
  obtain ⟨x6, e6⟩ : ∃ V, x5.alloc (.cells #[.int .i64 0, .int .i64 (s.size : Int)] 40) = V := ⟨_, rfl⟩
  obtain ⟨b13, hb13⟩ : ∃ b, x5.heap.size = b := ⟨_, rfl⟩
  rw [e6, hb13] at hV
  rw [e6] at hS
  rw [e6, hb13]
  clear e6 hb13 p5
  obtain ⟨L1, hL1⟩ : ∃ L, Hid (fl (fun i => lvS 58 s (0 + 1) i && (decide ((0 : Int) ≤ (i : Int)) && decide ((i : Int) < (s.size : Int)))) s.size = L) := ⟨_, rfl⟩
  obtain ⟨L2, hL2⟩ : ∃ L, Hid (fl (fun i => lvS 44 s (0 + 1) i && (decide ((0 : Int) ≤ (i : Int)) && decide ((i : Int) < (s.size : Int)))) s.size = L) := ⟨_, rfl⟩
  have hle1 : Hid (L1.length ≤ 1048576) := by show _ ≤ _; rw [← hL1.out]; exact Nat.le_trans (fl_len _ _) hs'.out
  have hle2 : Hid (L2.length ≤ 1048576) := by show _ ≤ _; rw [← hL2.out]; exact Nat.le_trans (fl_len _ _) hs'.out
  have hwf : Hid ((Lit.int .i64 (0 : Int)).wf = true ∧ (Lit.int .i64 (s.size : Int)).wf = true) := ⟨by decide, WalkArith.wf_i64 (by have := hs'.out; omega)⟩
  have hcol : Hid (∀ (u : World), LkS w s t m hi a0 a1 a2 a3 a4 a5 b7 b9 b11 u → Calls Tryd.prog 13 #[(.agg #[.slice (some ⟨a0, 0, none⟩) m m, .slice (some ⟨a1, 0, none⟩) m m]), .int .i64 1, (.agg #[.int .i64 0, .int .i64 (s.size : Int)])] u fun e w' => ∃ v, e = .returned v ∧ PlaW u L1 v w') := fun u hu => colons_of _ _ 1 0 (s.size : Int) u (PlaW u L1) (fun W hW => by
    rw [← hL1.out]
    exact within_lv a0 m s.size _ (fun k => lvS 58 s (k + 1)) 0 0 (s.size : Int) (by have := hs'.out; omega) hm.out.2 hm.out.1 hwf.out.1 hwf.out.2 (fun _ _ => rfl) u (hT'.out.below hu.b (by have := h0'.out; omega)) (by have := h0'.out; have := hu.b.size; omega) hu.l0 W hW)
  have hcom : Hid (∀ (u : World), LkS w s t m hi a0 a1 a2 a3 a4 a5 b7 b9 b11 u → Calls Tryd.prog 14 #[(.agg #[.slice (some ⟨a0, 0, none⟩) m m, .slice (some ⟨a1, 0, none⟩) m m]), .int .i64 1, (.agg #[.int .i64 0, .int .i64 (s.size : Int)])] u fun e w' => ∃ v, e = .returned v ∧ PlaW u L2 v w') := fun u hu => commas_of _ _ 1 0 (s.size : Int) u (PlaW u L2) (fun W hW => by
    rw [← hL2.out]
    exact within_lv a1 m s.size _ (fun k => lvS 44 s (k + 1)) 0 0 (s.size : Int) (by have := hs'.out; omega) hm.out.2 hm.out.1 hwf.out.1 hwf.out.2 (fun _ _ => rfl) u (hT'.out.below hu.b (by have := h0'.out; omega)) (by have := h0'.out; have := hu.b.size; omega) hu.l1 W hW)
  rename_i K10 hK10
  refine wp_region_held_drew (S := fun W' => LkS w s t m hi a0 a1 a2 a3 a4 a5 b7 b9 b11 W' ∧ At W' b13 #[.int .i64 0, .int .i64 (s.size : Int)] 40) (by kernel_rfl) ⟨hS.out.kept (Below.refl _ _).drew, hV.out.drew⟩ (fun hHeld => ?_)
  obtain ⟨u100, hv10⟩ : ∃ v, World.drew x6 = v := ⟨_, rfl⟩
  rw [hv10] at hHeld  ⊢
  clear hv10 hS hV
  (refine' wpAnyH_take (i := 0) (v := (.agg #[.slice (some ⟨a0, 0, none⟩) m m, .slice (some ⟨a1, 0, none⟩) m m])) rfl (by kernel_rfl) (by kernel_rfl) (by kernel_rfl) (fun _ _ _ h => h) (Or.inl ⟨by rfl, ?_⟩) hHeld ?_; (· (intro wq hq; (try dsimp only at hq); obtain ⟨c0, c1, -, -⟩ := hq.1.v7.factsL; go_simp; first | done | with_reducible rfl)); simp only [Act.put, List.getElem_toArray, List.getElem_cons_zero, List.setIfInBounds_toArray, List.set_cons_zero, List.set_cons_succ])
  (refine' wpAnyH_take (i := 1) (v := (.agg #[.int .i64 0, .int .i64 (s.size : Int)])) rfl (by kernel_rfl) (by kernel_rfl) (by kernel_rfl) (fun _ _ _ h => h) (Or.inl ⟨by rfl, ?_⟩) hHeld ?_; (· (intro wq hq; (try dsimp only at hq); obtain ⟨c0, c1, -, -⟩ := hq.2.factsL; go_simp; first | done | with_reducible rfl)); simp only [Act.put, List.getElem_toArray, List.getElem_cons_zero, List.getElem_cons_succ, List.setIfInBounds_toArray, List.set_cons_zero, List.set_cons_succ])
  (refine' wpAnyH_take (i := 3) (v := (.agg #[.slice (some ⟨a0, 0, none⟩) m m, .slice (some ⟨a1, 0, none⟩) m m])) rfl (by kernel_rfl) (by kernel_rfl) (by kernel_rfl) (fun _ _ _ h => h) (Or.inl ⟨by rfl, ?_⟩) hHeld ?_; (· (intro wq hq; (try dsimp only at hq); obtain ⟨c0, c1, -, -⟩ := hq.1.v7.factsL; go_simp; first | done | with_reducible rfl)); simp only [Act.put, List.getElem_toArray, List.getElem_cons_zero, List.getElem_cons_succ, List.setIfInBounds_toArray, List.set_cons_zero, List.set_cons_succ])
  (refine' wpAnyH_take (i := 4) (v := (.agg #[.int .i64 0, .int .i64 (s.size : Int)])) rfl (by kernel_rfl) (by kernel_rfl) (by kernel_rfl) (fun _ _ _ h => h) (Or.inl ⟨by rfl, ?_⟩) hHeld ?_; (· (intro wq hq; (try dsimp only at hq); obtain ⟨c0, c1, -, -⟩ := hq.2.factsL; go_simp; first | done | with_reducible rfl)); simp only [Act.put, List.getElem_toArray, List.getElem_cons_zero, List.getElem_cons_succ, List.setIfInBounds_toArray, List.set_cons_zero, List.set_cons_succ])
  refine wpAnyH_ready (rs := [2]) (by kernel_rfl) (by simp) ?_
  refine AllReadyH.cons rfl (fun K hK => ?_) ?_
  · rw [if_pos (by rfl)]
    go_simp
    refine Calls.mono (hcol.out _ hHeld.1) ?_
    rintro e u101 ⟨wx, rfl, rx0, q1⟩
    obtain ⟨ax, cx, rfl, -⟩ := ints_row rx0
    have rx := hid rx0
    have lx := hid (fun g (e : (Value.slice ax L1.length cx).ownBlock = some g) => (rx0.lt g e).2)
    have zx := hid q1.size
    have hH1 : _ ∧ _ := ⟨hHeld.1.kept q1, hHeld.2.keptAll q1⟩
    have zlo := hid hHeld.1.o.2.2.2.2.2.2.2.2.2.2
    refine hK.out _ _ hH1 (fun _ => ?_)
    clear hK K hHeld rx0 q1
    have hHeld := hH1
    refine wpAnyH_ready (rs := [5]) (by kernel_rfl) (by simp) ?_
    refine AllReadyH.cons rfl (fun K hK => ?_) ?_
    · rw [if_pos (by rfl)]
      go_simp
      refine Calls.mono (hcom.out _ hHeld.1) ?_
      rintro e u102 ⟨wy, rfl, ry0, q2⟩
      obtain ⟨ay, cy, rfl, -⟩ := ints_row ry0
      have ry := hid ry0
      have ly := hid (fun g (e : (Value.slice ay L2.length cy).ownBlock = some g) => (ry0.lt g e).2)
      have zy := hid q2.size
      have hH2 : _ ∧ _ := ⟨hH1.1.kept q2, hH1.2.keptAll q2⟩
      replace rx := hid (rowz_kept rx.out q2)
      refine hK.out _ _ hH2 (fun _ => ?_)
      clear hK K hHeld hH1 ry0 q2
      have hHeld := hH2
      (refine' wpAnyH_take (i := 6) rfl (by kernel_rfl) (by kernel_rfl) (by kernel_rfl) (fun _ _ _ h => h) (Or.inl ⟨by rfl, ?_⟩) (by assumption) ?_; rotate_left; (· (intro wq hq; (try dsimp only at hq); go_simp; first | done | with_reducible rfl)); simp only [Act.put, List.getElem_toArray, List.getElem_cons_zero, List.getElem_cons_succ, List.setIfInBounds_toArray, List.set_cons_zero, List.set_cons_succ])
      (refine' wpAnyH_take (i := 7) rfl (by kernel_rfl) (by kernel_rfl) (by kernel_rfl) (fun _ _ _ h => h) (Or.inl ⟨by rfl, ?_⟩) (by assumption) ?_; rotate_left; (· (intro wq hq; (try dsimp only at hq); go_simp; first | done | with_reducible rfl)); simp only [Act.put, List.getElem_toArray, List.getElem_cons_zero, List.getElem_cons_succ, List.setIfInBounds_toArray, List.set_cons_zero, List.set_cons_succ])
      refine wpAnyH_done (by kernel_rfl) ?_ _
      refine hK10 _ _ ?_
      have hS := hid hH2.1
      have hV := hid hH2.2
      clear hK10 hHeld hH2
      go_wp2_with fail
      rename_i K11 hK11
      refine wp_region_held_drew (S := fun W' => LkS w s t m hi a0 a1 a2 a3 a4 a5 b7 b9 b11 W' ∧ At W' b13 #[.int .i64 0, .int .i64 (s.size : Int)] 40) (by kernel_rfl) ⟨hS.out.kept (Below.refl _ _).drew, hV.out.drew⟩ (fun hHeld => ?_)
      obtain ⟨u110, hv11⟩ : ∃ v, World.drew u102 = v := ⟨_, rfl⟩
      replace rx := hid (World.ownsRow.drew rx.out)
      replace ry := hid (World.ownsRow.drew ry.out)
      rw [hv11] at hHeld rx ry ⊢
      have zd := hid (show u110.heap.size = u102.heap.size by rw [← hv11]; rfl)
      clear hv11 hS hV
      (refine' wpAnyH_take (i := 0) (v := (.agg #[.slice (some ⟨a0, 0, none⟩) m m, .slice (some ⟨a1, 0, none⟩) m m])) rfl (by kernel_rfl) (by kernel_rfl) (by kernel_rfl) (fun _ _ _ h => h) (Or.inl ⟨by rfl, ?_⟩) hHeld ?_; (· (intro wq hq; (try dsimp only at hq); obtain ⟨c0, c1, -, -⟩ := hq.1.v7.factsL; go_simp; first | done | with_reducible rfl)); simp only [Act.put, List.getElem_toArray, List.getElem_cons_zero, List.setIfInBounds_toArray, List.set_cons_zero, List.set_cons_succ])
      (refine' wpAnyH_take (i := 1) (v := (.agg #[.int .i64 0, .int .i64 (s.size : Int)])) rfl (by kernel_rfl) (by kernel_rfl) (by kernel_rfl) (fun _ _ _ h => h) (Or.inl ⟨by rfl, ?_⟩) hHeld ?_; (· (intro wq hq; (try dsimp only at hq); obtain ⟨c0, c1, -, -⟩ := hq.2.factsL; go_simp; first | done | with_reducible rfl)); simp only [Act.put, List.getElem_toArray, List.getElem_cons_zero, List.getElem_cons_succ, List.setIfInBounds_toArray, List.set_cons_zero, List.set_cons_succ])
      (refine' wpAnyH_take (i := 3) (v := (.agg #[.slice (some ⟨a0, 0, none⟩) m m, .slice (some ⟨a1, 0, none⟩) m m])) rfl (by kernel_rfl) (by kernel_rfl) (by kernel_rfl) (fun _ _ _ h => h) (Or.inl ⟨by rfl, ?_⟩) hHeld ?_; (· (intro wq hq; (try dsimp only at hq); obtain ⟨c0, c1, -, -⟩ := hq.1.v7.factsL; go_simp; first | done | with_reducible rfl)); simp only [Act.put, List.getElem_toArray, List.getElem_cons_zero, List.getElem_cons_succ, List.setIfInBounds_toArray, List.set_cons_zero, List.set_cons_succ])
      (refine' wpAnyH_take (i := 4) (v := (.agg #[.int .i64 0, .int .i64 (s.size : Int)])) rfl (by kernel_rfl) (by kernel_rfl) (by kernel_rfl) (fun _ _ _ h => h) (Or.inl ⟨by rfl, ?_⟩) hHeld ?_; (· (intro wq hq; (try dsimp only at hq); obtain ⟨c0, c1, -, -⟩ := hq.2.factsL; go_simp; first | done | with_reducible rfl)); simp only [Act.put, List.getElem_toArray, List.getElem_cons_zero, List.getElem_cons_succ, List.setIfInBounds_toArray, List.set_cons_zero, List.set_cons_succ])
      refine wpAnyH_ready (rs := [2]) (by kernel_rfl) (by simp) ?_
      refine AllReadyH.cons rfl (fun K hK => ?_) ?_
      · rw [if_pos (by rfl)]
        go_simp
        refine Calls.mono (hcol.out _ hHeld.1) ?_
        rintro e u111 ⟨wz, rfl, rz0, q1⟩
        obtain ⟨az, cz, rfl, -⟩ := ints_row rz0
        have rz := hid rz0
        have lz := hid (fun g (e : (Value.slice az L1.length cz).ownBlock = some g) => (rz0.lt g e).2)
        have zz := hid q1.size
        have hH1 : _ ∧ _ := ⟨hHeld.1.kept q1, hHeld.2.keptAll q1⟩
        replace rx := hid (rowz_kept rx.out q1)
        replace ry := hid (rowz_kept ry.out q1)
        refine hK.out _ _ hH1 (fun _ => ?_)
        clear hK K hHeld rz0 q1
        have hHeld := hH1
        refine wpAnyH_ready (rs := [5]) (by kernel_rfl) (by simp) ?_
        refine AllReadyH.cons rfl (fun K hK => ?_) ?_
        · rw [if_pos (by rfl)]
          go_simp
          refine Calls.mono (hcom.out _ hHeld.1) ?_
          rintro e u112 ⟨wu, rfl, ru0, q2⟩
          obtain ⟨au, cu, rfl, -⟩ := ints_row ru0
          have ru := hid ru0
          have lu := hid (fun g (e : (Value.slice au L2.length cu).ownBlock = some g) => (ru0.lt g e).2)
          have zu := hid q2.size
          have hH2 : _ ∧ _ := ⟨hH1.1.kept q2, hH1.2.keptAll q2⟩
          replace rx := hid (rowz_kept rx.out q2)
          replace ry := hid (rowz_kept ry.out q2)
          replace rz := hid (rowz_kept rz.out q2)
          refine hK.out _ _ hH2 (fun _ => ?_)
          clear hK K hHeld hH1 ru0 q2
          have hHeld := hH2
          (refine' wpAnyH_take (i := 6) rfl (by kernel_rfl) (by kernel_rfl) (by kernel_rfl) (fun _ _ _ h => h) (Or.inl ⟨by rfl, ?_⟩) (by assumption) ?_; rotate_left; (· (intro wq hq; (try dsimp only at hq); go_simp; first | done | with_reducible rfl)); simp only [Act.put, List.getElem_toArray, List.getElem_cons_zero, List.getElem_cons_succ, List.setIfInBounds_toArray, List.set_cons_zero, List.set_cons_succ])
          (refine' wpAnyH_take (i := 7) rfl (by kernel_rfl) (by kernel_rfl) (by kernel_rfl) (fun _ _ _ h => h) (Or.inl ⟨by rfl, ?_⟩) (by assumption) ?_; rotate_left; (· (intro wq hq; (try dsimp only at hq); go_simp; first | done | with_reducible rfl)); simp only [Act.put, List.getElem_toArray, List.getElem_cons_zero, List.getElem_cons_succ, List.setIfInBounds_toArray, List.set_cons_zero, List.set_cons_succ])
          refine wpAnyH_done (by kernel_rfl) ?_ _
          refine hK11 _ _ ?_
          have hS := hid hH2.1
          have hV := hid hH2.2
          clear hK11 hHeld hH2
          have hLL : Hid (LkL L1 L2 (.slice ax L1.length cx) (.slice ay L2.length cy) (.slice az L1.length cz) (.slice au L2.length cu) u100.heap.size u101.heap.size u110.heap.size u111.heap.size 0 u112) :=
            ⟨rx.out, ry.out, rz.out, ru.out, lx.out, fun g e => by rw [zd.out]; exact ly.out g e, lz.out, zx.out, by rw [zd.out]; exact zy.out, zz.out⟩
          obtain ⟨c1, hc1⟩ : ∃ c, Hid (L1.length = c) := ⟨_, rfl⟩
          obtain ⟨c2, hc2⟩ : ∃ c, Hid (L2.length = c) := ⟨_, rfl⟩
          rw [hc1.out, hc2.out]
          rw [hc1.out] at hle1
          rw [hc2.out] at hle2
          have hle1' := hle1.out
          have hle2' := hle2.out
          obtain ⟨n1, hn1⟩ : ∃ n, u100.heap.size = n := ⟨_, rfl⟩
          rw [hn1] at hLL zlo
          clear rx ry rz ru lx ly lz lu zx zy zz zu zd hcol hcom hV
          go_wp2_with fail
          refine Calls.mono (sameI_calls L1 c1 hc1 (by omega) ax az cx cz u112 (ints_atL hLL.out.rx) (ints_atL hLL.out.rz)) ?_
          rintro e x7 ⟨rfl, q7⟩
          replace hLL := hid (hLL.out.kept q7)
          replace hS := hid (hS.out.kept q7)
          clear q7
          go_wp2_with fail
          refine Calls.mono (sameI_calls L2 c2 hc2 (by omega) ay au cy cu x7 (ints_atL hLL.out.ry) (ints_atL hLL.out.ru)) ?_
          rintro e x8 ⟨rfl, q8⟩
          replace hLL := hid (hLL.out.kept q8)
          replace hS := hid (hS.out.kept q8)
          clear q8
          rw [hc1.out, hc2.out] at hLL
          go_wp2_with fail
          have al := (Below.refl _ x8).alloc (Nat.le_refl _) (.cells #[.slice ax c1 cx, .slice ay c2 cy, .slice az c1 cz, .slice au c2 cu] 23)
          have hAl := At.new x8 #[.slice ax c1 cx, .slice ay c2 cy, .slice az c1 cz, .slice au c2 cu] 23
          obtain ⟨x9, e9⟩ : ∃ V, x8.alloc (.cells #[.slice ax c1 cx, .slice ay c2 cy, .slice az c1 cz, .slice au c2 cu] 23) = V := ⟨_, rfl⟩
          rw [e9] at al hAl ⊢
          have hnew := hid (hLL.out.new (c1 := c1) (c2 := c2) (Nat.le_refl _))
          replace hLL := hid (hLL.out.kept al)
          replace hS := hid (hS.out.kept al)
          obtain ⟨ga, hga⟩ : ∃ g, x8.heap.size = g := ⟨_, rfl⟩
          rw [hga] at hAl hnew ⊢
          clear e9 al hga
          have hlow : Hid (w.heap.size ≤ n1) := by
            show _ ≤ _
            have h1 := zlo.out
            have h2 := hS.out.o
            omega
          refine Calls.mono (apartI_calls x9 ga 4 4 w.heap.size [⟨.slice ax c1 cx, c1⟩, ⟨.slice ay c2 cy, c2⟩, ⟨.slice az c1 cz, c1⟩, ⟨.slice au c2 cu, c2⟩] _ _ _ rfl (by decide) (fun x hx => by
              simp at hx
              rcases hx with rfl | rfl | rfl | rfl
              · show c1 ≤ _; omega
              · show c2 ≤ _; omega
              · show c1 ≤ _; omega
              · show c2 ≤ _; omega) hS.out.b.size hAl hnew.out (fun k x hk => by
              match k, hk with
              | 0, hk => simp at hk; subst hk; rfl
              | 1, hk => simp at hk; subst hk; rfl
              | 2, hk => simp at hk; subst hk; rfl
              | 3, hk => simp at hk; subst hk; rfl
              | k + 4, hk => simp at hk) (hLL.out.rows hlow.out hc1.out hc2.out)) ?_
          rintro e y1 ⟨rfl, hA8⟩
          replace hS := hid (hS.out.over hA8.1 (fun b cs t h1 hb => hA8.2 b cs t h1 (hLL.out.off (by have := zlo.out; omega))))
          clear hA8 hAl hnew hLL
          obtain ⟨c70, c71, -, -⟩ := hS.out.v7.factsL
          obtain ⟨c90, c91, -, -⟩ := hS.out.v9.factsL
          obtain ⟨c110, c111, -, -⟩ := hS.out.v11.factsL
          go_wp2_with fail
          have al := (Below.refl _ y1).alloc (Nat.le_refl _) (.cells #[.slice (some ⟨a0, 0, none⟩) m m, .slice (some ⟨a1, 0, none⟩) m m, .slice (some ⟨a2, 0, none⟩) m m, .slice (some ⟨a3, 0, none⟩) m m, .slice (some ⟨a4, 0, none⟩) m m, .slice (some ⟨a5, 0, none⟩) m m] 34)
          have hAl := At.new y1 #[.slice (some ⟨a0, 0, none⟩) m m, .slice (some ⟨a1, 0, none⟩) m m, .slice (some ⟨a2, 0, none⟩) m m, .slice (some ⟨a3, 0, none⟩) m m, .slice (some ⟨a4, 0, none⟩) m m, .slice (some ⟨a5, 0, none⟩) m m] 34
          obtain ⟨y2, f2⟩ : ∃ V, y1.alloc (.cells #[.slice (some ⟨a0, 0, none⟩) m m, .slice (some ⟨a1, 0, none⟩) m m, .slice (some ⟨a2, 0, none⟩) m m, .slice (some ⟨a3, 0, none⟩) m m, .slice (some ⟨a4, 0, none⟩) m m, .slice (some ⟨a5, 0, none⟩) m m] 34) = V := ⟨_, rfl⟩
          rw [f2] at al hAl ⊢
          replace hS := hid (hS.out.kept al)
          clear al f2 c70 c71 c90 c91 c110 c111
          refine Calls.mono (apartLv_calls w.heap.size m hm.out.1 hm.out.2 (aa6 a0 a1 a2 a3 a4 a5) (nn6 s t) (ff6 s t) (fun p _ => by
              unfold nn6 tx6
              split
              · exact ht'.out
              · exact hs'.out) y2 y1.heap.size 3 hS.out.b.size hS.out.six (fun i hi => by
              match i, hi with
              | 0, _ => exact ⟨hAl.cell 0, hAl.cell 1⟩
              | 1, _ => exact ⟨hAl.cell 2, hAl.cell 3⟩
              | 2, _ => exact ⟨hAl.cell 4, hAl.cell 5⟩) hAl.lt) ?_
          rintro e y3 ⟨rfl, q3⟩
          have hfin := hid (hS.out.b.trans q3)
          clear q3 hAl
          go_wp2
          go_ret
          exact ⟨rfl, hfin.out⟩
        exact AllReadyH.nil
      exact AllReadyH.nil
    exact AllReadyH.nil
  exact AllReadyH.nil
end Go.Proofs.YtodhekdnbenobaaDoor
