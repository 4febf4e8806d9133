/-
  TrI, TrJ, TrK, TrL, one behind the other.
-/
import Derived.Test.YthfbmelfflpenaaDoorTrHA
import Derived.Test.YthfbmelfflpenaaDoorKitB
import Derived.Sort.Walk0
import Derived.Test.YthfbmelfflpenaaDoorTrE
import Derived.Deep.RegionHeld
/- Places ordered by names: the order of texts, rows that rise, and how two are put together (mathematics alone). -/
namespace Go.Proofs.YthfbmelfflpenaaDoor
open Go.RowKit Go.Shelf

/-- Is one text less than another? -/
def ltS (a b : ByteArray) : Bool := Op.bytesLess a.toList b.toList
theorem bl_irrefl : ∀ (x : List UInt8), Op.bytesLess x x = false
  | [] => by simp [Op.bytesLess]
  | a :: x => by simp [Op.bytesLess, bl_irrefl x]
theorem bl_trans : ∀ (x y z : List UInt8), Op.bytesLess x y = true → Op.bytesLess y z = true → Op.bytesLess x z = true
  | x, y, [], _, h => by cases y <;> simp [Op.bytesLess] at h
  | [], y, c :: z, _, _ => by simp [Op.bytesLess]
  | a :: x, [], c :: z, h, _ => by simp [Op.bytesLess] at h
  | a :: x, b :: y, c :: z, h1, h2 => by
    simp only [Op.bytesLess, Bool.or_eq_true, Bool.and_eq_true, decide_eq_true_eq, beq_iff_eq] at h1 h2 ⊢
    rcases h1 with h1 | ⟨rfl, h1⟩ <;> rcases h2 with h2 | ⟨rfl, h2⟩
    · exact .inl (UInt8.lt_trans h1 h2)
    · exact .inl h1
    · exact .inl h2
    · exact .inr ⟨rfl, bl_trans x y z h1 h2⟩
theorem bl_total : ∀ (x y : List UInt8), Op.bytesLess x y = true ∨ x = y ∨ Op.bytesLess y x = true
  | [], [] => .inr (.inl rfl)
  | [], b :: y => .inl (by simp [Op.bytesLess])
  | a :: x, [] => .inr (.inr (by simp [Op.bytesLess]))
  | a :: x, b :: y => by
    simp only [Op.bytesLess, Bool.or_eq_true, Bool.and_eq_true, decide_eq_true_eq, beq_iff_eq]
    by_cases h1 : a < b
    · exact .inl (.inl h1)
    by_cases h2 : b < a
    · exact .inr (.inr (.inl h2))
    have he : a = b := UInt8.le_antisymm (UInt8.not_lt.mp h2) (UInt8.not_lt.mp h1)
    subst he
    rcases bl_total x y with h | h | h
    · exact .inl (.inr ⟨rfl, h⟩)
    · exact .inr (.inl (by rw [h]))
    · exact .inr (.inr (.inr ⟨rfl, h⟩))
theorem toList_inj16 {a b : ByteArray} (h : a.toList = b.toList) : a = b := by
  have := text_beq a b
  rw [h] at this
  simpa using this
def keyA (L : List ByteArray) (i : Nat) : ByteArray := L.getD i ByteArray.empty
theorem keyA_get {L : List ByteArray} {i : Nat} {k : ByteArray} (h : L[i]? = some k) : keyA L i = k := by unfold keyA; rw [List.getD_eq_getElem?_getD, h]; rfl
/-- Ahead of one another by their names; like names by their places. -/
def ltK (L : List ByteArray) (a b : Nat) : Prop := ltS (keyA L a) (keyA L b) = true ∨ (keyA L a = keyA L b ∧ a < b)
theorem ltK_irrefl (L : List ByteArray) (a : Nat) : ¬ ltK L a a := fun h => by
  rcases h with h | ⟨-, h⟩
  · unfold ltS at h; rw [bl_irrefl] at h; cases h
  · omega
theorem ltK_trans {L : List ByteArray} {a b c : Nat} (h1 : ltK L a b) (h2 : ltK L b c) : ltK L a c := by
  rcases h1 with h1 | ⟨e1, h1⟩ <;> rcases h2 with h2 | ⟨e2, h2⟩
  · exact .inl (bl_trans _ _ _ h1 h2)
  · exact .inl (by rw [← e2]; exact h1)
  · exact .inl (by rw [e1]; exact h2)
  · exact .inr ⟨e1.trans e2, by omega⟩
theorem ltK_total (L : List ByteArray) {a b : Nat} (h : a ≠ b) : ltK L a b ∨ ltK L b a := by
  rcases bl_total (keyA L a).toList (keyA L b).toList with h1 | h1 | h1
  · exact .inl (.inl h1)
  · have e := toList_inj16 h1
    rcases Nat.lt_or_gt_of_ne h with h2 | h2
    · exact .inl (.inr ⟨e, h2⟩)
    · exact .inr (.inr ⟨e.symm, h2⟩)
  · exact .inr (.inl h1)
/-- A row that rises. -/
def Ris (L : List ByteArray) (P : List Nat) : Prop := P.Pairwise (ltK L)
/-- Two rows that rise, put together so far. -/
structure Mrg (L : List ByteArray) (A B P : List Nat) (i k : Nat) : Prop where
  ris : Ris L P
  low : ∀ p ∈ P, (∀ a ∈ A.drop i, ltK L p a) ∧ ∀ b ∈ B.drop k, ltK L p b
  mem : ∀ p ∈ P, p ∈ A ∨ p ∈ B
  len : P.length = i + k
theorem mrg0 (L : List ByteArray) (A B : List Nat) : Mrg L A B [] 0 0 := ⟨List.Pairwise.nil, fun p h => by simp at h, fun p h => by simp at h, rfl⟩
theorem Mrg.swap {L : List ByteArray} {A B P : List Nat} {i k : Nat} (h : Mrg L A B P i k) : Mrg L B A P k i :=
  ⟨h.ris, fun p hp => ⟨(h.low p hp).2, (h.low p hp).1⟩, fun p hp => (h.mem p hp).symm, by rw [h.len]; omega⟩
theorem Mrg.take {L : List ByteArray} {A B P : List Nat} {i k a : Nat} (h : Mrg L A B P i k) (hA : Ris L A) (hB : Ris L B) (ha : A[i]? = some a) (hb : ∀ b, B[k]? = some b → ltK L a b) : Mrg L A B (P ++ [a]) (i + 1) k := by
  have hd := drop_some ha
  have hpa : ∀ p ∈ P, ltK L p a := fun p hp => (h.low p hp).1 a (by rw [hd]; exact List.mem_cons_self)
  refine ⟨?_, ?_, ?_, by rw [List.length_append, h.len]; simp; omega⟩
  · unfold Ris
    rw [List.pairwise_append]
    refine ⟨h.ris, List.pairwise_singleton _ _, fun x hx y hy => ?_⟩
    simp at hy
    subst hy
    exact hpa x hx
  · intro p hp
    rw [List.mem_append] at hp
    rcases hp with hp | hp
    · obtain ⟨l1, l2⟩ := h.low p hp
      exact ⟨fun x hx => l1 x (by rw [hd]; exact List.mem_cons_of_mem _ hx), l2⟩
    · simp at hp
      subst hp
      refine ⟨fun x hx => ?_, fun x hx => ?_⟩
      · have hA2 : Ris L (A.drop i) := List.Pairwise.sublist (List.drop_sublist i A) hA
        rw [hd] at hA2
        exact (List.pairwise_cons.mp hA2).1 x hx
      · cases hk : B[k]? with
        | none =>
          rw [List.drop_of_length_le (List.getElem?_eq_none_iff.mp hk)] at hx
          simp at hx
        | some b =>
          have hd2 := drop_some hk
          have hB2 : Ris L (B.drop k) := List.Pairwise.sublist (List.drop_sublist k B) hB
          rw [hd2] at hx hB2
          rcases List.mem_cons.mp hx with e | hx
          · rw [e]; exact hb b hk
          · exact ltK_trans (hb b hk) ((List.pairwise_cons.mp hB2).1 x hx)
  · intro p hp
    rw [List.mem_append] at hp
    rcases hp with hp | hp
    · exact h.mem p hp
    · simp at hp
      subst hp
      exact .inl (List.mem_of_getElem? ha)
/-- A block of a row. -/
def blk (O : List Nat) (f wd : Nat) : List Nat := (O.drop f).take wd
/-- The row is of blocks that rise, each of its own places. -/
structure Blk (L : List ByteArray) (O : List Nat) (f wd : Nat) : Prop where
  ris : Ris L (blk O f wd)
  rng : ∀ x ∈ blk O f wd, f ≤ x ∧ x < f + wd ∧ x < L.length
def Runs (L : List ByteArray) (wd : Nat) (O : List Nat) : Prop := O.length = L.length ∧ ∀ m, Blk L O (m * wd) wd
theorem runs1 (L : List ByteArray) : Runs L 1 (List.range L.length) := by
  refine ⟨by simp, fun m => ?_⟩
  have e : blk (List.range L.length) (m * 1) 1 = if m < L.length then [m] else [] := by
    unfold blk
    rw [Nat.mul_one]
    by_cases h : m < L.length
    · rw [if_pos h, drop_some (x := m) (by rw [List.getElem?_range h])]
      rfl
    · rw [if_neg h, List.drop_of_length_le (by simp; omega)]
      rfl
  constructor
  · rw [e]
    split
    · exact List.pairwise_singleton _ _
    · exact List.Pairwise.nil
  · rw [e]
    intro x hx
    split at hx
    · simp at hx; subst hx; omega
    · simp at hx
/-- Put together up to the place f = m * (2 * wd). -/
def Half (L : List ByteArray) (wd m : Nat) (Q : List Nat) : Prop := Q.length = min (m * (2 * wd)) L.length ∧ ∀ j, j < m → Blk L Q (j * (2 * wd)) (2 * wd)
theorem half0 (L : List ByteArray) (wd : Nat) : Half L wd 0 [] := ⟨by simp, fun j h => by omega⟩
theorem blk_len (O : List Nat) (f wd : Nat) : (blk O f wd).length = min wd (O.length - f) := by unfold blk; rw [List.length_take, List.length_drop]
theorem blk_get {O : List Nat} {f wd j : Nat} (h : j < wd) : (blk O f wd)[j]? = O[f + j]? := by unfold blk; rw [List.getElem?_take, if_pos h, List.getElem?_drop]
theorem Half.next {L : List ByteArray} {wd m : Nat} {Q O P : List Nat} (hw : 0 < wd) (h : Half L wd m Q) (hf : m * (2 * wd) < L.length) (hO : Runs L wd O)
    (hM : Mrg L (blk O (m * (2 * wd)) wd) (blk O (m * (2 * wd) + wd) wd) P (blk O (m * (2 * wd)) wd).length (blk O (m * (2 * wd) + wd) wd).length) : Half L wd (m + 1) (Q ++ P) := by
  obtain ⟨h1, h2⟩ := h
  obtain ⟨o1, o2⟩ := hO
  have e1 : m * (2 * wd) = 2 * m * wd := by rw [Nat.mul_comm 2 m, Nat.mul_assoc]
  have e2 : m * (2 * wd) + wd = (2 * m + 1) * wd := by rw [Nat.add_mul, ← e1]; omega
  have e3 : (m + 1) * (2 * wd) = m * (2 * wd) + 2 * wd := by rw [Nat.add_mul]; omega
  have hA := o2 (2 * m)
  have hB := o2 (2 * m + 1)
  rw [← e1] at hA
  rw [← e2] at hB
  have hl := hM.len
  rw [blk_len, blk_len, o1] at hl
  have hQ : Q.length = m * (2 * wd) := by rw [h1]; omega
  refine ⟨by rw [List.length_append, hQ, hl, e3]; omega, fun j hj => ?_⟩
  by_cases hjm : j < m
  · have hle : j * (2 * wd) + 2 * wd ≤ m * (2 * wd) := by
      have : (j + 1) * (2 * wd) ≤ m * (2 * wd) := Nat.mul_le_mul_right _ hjm
      rw [Nat.add_mul] at this
      omega
    have e : blk (Q ++ P) (j * (2 * wd)) (2 * wd) = blk Q (j * (2 * wd)) (2 * wd) := by
      unfold blk
      rw [List.drop_append_of_le_length (by omega), List.take_append_of_le_length (by rw [List.length_drop]; omega)]
    obtain ⟨r1, r2⟩ := h2 j hjm
    exact ⟨by rw [e]; exact r1, by rw [e]; exact r2⟩
  · obtain rfl : j = m := by omega
    have e : blk (Q ++ P) (j * (2 * wd)) (2 * wd) = P := by
      unfold blk
      rw [List.drop_append, List.drop_of_length_le (by omega), List.nil_append, hQ, Nat.sub_self, List.drop_zero, List.take_of_length_le (by rw [hl]; omega)]
    refine ⟨by rw [e]; exact hM.ris, fun x hx => ?_⟩
    rw [e] at hx
    rcases hM.mem x hx with hx | hx
    · have := hA.rng x hx; omega
    · have := hB.rng x hx; omega
theorem Half.done {L : List ByteArray} {wd m : Nat} {Q : List Nat} (h : Half L wd m Q) (hf : L.length ≤ m * (2 * wd)) : Runs L (2 * wd) Q := by
  obtain ⟨h1, h2⟩ := h
  refine ⟨by rw [h1]; omega, fun j => ?_⟩
  by_cases hj : j < m
  · exact h2 j hj
  · have hle : m * (2 * wd) ≤ j * (2 * wd) := Nat.mul_le_mul_right _ (by omega)
    have e : blk Q (j * (2 * wd)) (2 * wd) = [] := by
      unfold blk
      rw [List.drop_of_length_le (by rw [h1]; omega)]
      simp
    exact ⟨by rw [e]; exact List.Pairwise.nil, by rw [e]; intro x hx; simp at hx⟩
/-- The places in order. -/
structure IsOrd (L : List ByteArray) (O : List Nat) : Prop where
  len : O.length = L.length
  ris : Ris L O
  rng : ∀ x ∈ O, x < L.length
theorem Runs.done {L : List ByteArray} {wd : Nat} {O : List Nat} (h : Runs L wd O) (hw : L.length ≤ wd) : IsOrd L O := by
  obtain ⟨h1, h2⟩ := h
  have hb := h2 0
  have e : blk O (0 * wd) wd = O := by
    unfold blk
    rw [Nat.zero_mul, List.drop_zero, List.take_of_length_le (by omega)]
  exact ⟨h1, by have := hb.ris; rwa [e] at this, fun x hx => (hb.rng x (by rw [e]; exact hx)).2.2⟩
theorem nodup_le : ∀ (n : Nat) (l : List Nat), l.Nodup → (∀ x ∈ l, x < n) → l.length ≤ n
  | 0, l, _, h => by
    cases l with
    | nil => simp
    | cons a l => exact absurd (h a List.mem_cons_self) (by omega)
  | n + 1, l, hn, h => by
    have h1 := nodup_le n (l.erase n) (hn.erase n) (fun x hx => by
      have hx1 := (hn.mem_erase_iff).mp hx
      have := h x hx1.2
      omega)
    have h2 : l.length ≤ (l.erase n).length + 1 := by
      by_cases hm : n ∈ l
      · rw [List.length_erase_of_mem hm]; omega
      · rw [List.erase_of_not_mem hm]; omega
    omega
theorem IsOrd.nodup {L : List ByteArray} {O : List Nat} (h : IsOrd L O) : O.Nodup := List.Pairwise.imp (fun {a b} hab e => by subst e; exact ltK_irrefl L a hab) h.ris
/-- Each place stands somewhere. -/
theorem IsOrd.all {L : List ByteArray} {O : List Nat} (h : IsOrd L O) {i : Nat} (hi : i < L.length) : ∃ j : Nat, O[j]? = some i := by
  by_cases hm : i ∈ O
  · exact List.getElem?_of_mem hm
  · exfalso
    have := nodup_le L.length (i :: O) (List.nodup_cons.mpr ⟨hm, h.nodup⟩) (fun x hx => by
      rcases List.mem_cons.mp hx with e | hx
      · omega
      · exact h.rng x hx)
    rw [List.length_cons, h.len] at this
    omega
theorem IsOrd.lt {L : List ByteArray} {O : List Nat} (h : IsOrd L O) {i j a b : Nat} (hi : O[i]? = some a) (hj : O[j]? = some b) (hij : i < j) : ltK L a b := by
  obtain ⟨h1, e1⟩ := List.getElem?_eq_some_iff.mp hi
  obtain ⟨h2, e2⟩ := List.getElem?_eq_some_iff.mp hj
  have := List.pairwise_iff_getElem.mp h.ris i j h1 h2 hij
  rwa [e1, e2] at this
end Go.Proofs.YthfbmelfflpenaaDoor

/- quarryref17.Ordered: the places of names, in order. -/
namespace Go.Proofs.YthfbmelfflpenaaDoor
open Go.RowKit Go.Shelf

theorem infoI17 : (Tryd.prog.info? 3).map (fun i => (i.zero, i.size, i.bytes)) = some (some (.int .i64 0), 1, 8) := by kernel_rfl
theorem ownI_below {B n : Nat} {v : Value} {xs : List Value} {w w' : World} (h : w.ownsRow B 3 1 v n xs) (hb : Below w.heap.size w w') : w'.ownsRow B 3 1 v n xs :=
  h.kept (row := none) ⟨hb.os, hb.tape, hb.output, hb.size, fun k hk _ => hb.block k hk⟩ (by cases v.ownBlock <;> simp)
/-- A list of numbers in memory: where each lies. -/
theorem ownI_at {H n : Nat} {v : Value} {L : List Nat} {w : World} (h : w.ownsRow H 3 1 v n (ints L)) (hn : L.length = n) : ∃ o cap, v = .slice o n cap ∧ ∀ t p : Nat, L[t]? = some p → ∃ g, o = some ⟨g, 0, none⟩ ∧ g < w.heap.size ∧ w.cell? ⟨g, t, none⟩ = some (.int .i64 (p : Int)) := by
  rcases h.2 with ⟨rfl, h0⟩ | ⟨g, cap, cur, hv, -⟩
  · exact ⟨none, 0, by rw [h0], fun t p ht => by
      have := (List.getElem?_eq_some_iff.mp ht).1
      omega⟩
  · refine ⟨_, _, hv, fun t p ht => ⟨g, rfl, (h.lt g (by rw [hv]; rfl)).2, ?_⟩⟩
    have hget : (ints L)[t]? = some (.int .i64 (p : Int)) := by unfold ints; rw [List.getElem?_map, ht]; rfl
    have hcell := h.cells (g := g) (by rw [hv]; rfl) t _ hget
    have hadd : (⟨g, 0, none⟩ : Addr).add t = ⟨g, t, none⟩ := by by_cases h : t = 0 <;> simp [Addr.add, h]
    rwa [hadd] at hcell
/-- What Ordered leaves. -/
def OrdP (L : List ByteArray) (w : World) (e : Ending) (w' : World) : Prop := ∃ v O H, e = .returned v ∧ w.heap.size ≤ H ∧ w'.ownsRow H 3 1 v L.length (ints O) ∧ IsOrd L O ∧ Below w.heap.size w w'
/-- A list of numbers that is whole: the row, and what it is of. -/
structure OrI (L : List ByteArray) (w : World) (N wd : Nat) (v : Value) (wr : World) : Prop where
  ex : ∃ O H, w.heap.size ≤ H ∧ H ≤ wr.heap.size ∧ wr.ownsRow H 3 1 v N (ints O) ∧ Runs L wd O ∧ Below w.heap.size w wr
set_option maxRecDepth 10000 in
set_option maxHeartbeats 8000000 in
theorem ordered_calls (L : List ByteArray) (ko : Option Addr) (kc : Nat) (hl : L.length ≤ 4294967296) (w : World) (hk : KeysAt w ko L) :
    Calls Tryd.prog 48 #[.slice ko L.length kc] w fun e w' => OrdP L w e w' := by
  obtain ⟨i0, hi, hz0', hz1', hz2'⟩ := info_parts infoI17
  have hi0 := hid hi
  have hz0 := hid hz0'
  have hz1 := hid hz1'
  have hz2 := hid hz2'
  have hk' := hid hk
  obtain ⟨N, hN⟩ : ∃ N, Hid (L.length = N) := ⟨_, rfl⟩
  rw [hN.out] at hl ⊢
  have hNi : (N : Int) ≤ 4294967296 := by omega
  clear hi hz0' hz1' hz2' hk
  go_enter Tryd.func48, Tryd.ntmps48
  go_wp2_with fail
  go_loopw [3, 4] (fun v ii wr => ∃ i : Nat, i ≤ N ∧ ii = .int .i64 (i : Int) ∧ Hid (wr.ownsRow w.heap.size 3 1 v i (ints (List.range i))) ∧ Hid (Below w.heap.size w wr)) (fun _ ii _ => N - (intOf ii).toNat)
  case atStart => exact ⟨0, Nat.zero_le _, rfl, World.ownsRow_nil _ _ _ _, Below.refl _ _⟩
  case round =>
    obtain ⟨i, hiN, rfl, hown, hb⟩ := hrel
    have hHW := hid (show w.heap.size ≤ wr.heap.size from hb.out.size)
    by_cases hlt : i < N
    · have hli : (i : Int) < (N : Int) := by omega
      go_wp2_with (first | (at_builtin; refine wpList_append_own _ rfl _ _ 61 rfl w.heap.size 3 i0 (.int .i64 0) 1 8 Tryd.underlying61 hi0.out hz0.out hz1.out hz2.out rfl (by decide) _ _ _ rfl (World.ownsRow.alloc hown.out _) ⟨wr.heap.size, 0, none⟩ 1 1 [.int .i64 (i : Int)] rfl rfl (fun j u hj => by match j, hj with | 0, hj => simp at hj; subst hj; simp [Addr.add]) (fun u hu => by simp at hu; subst hu; rfl) (by unfold maxLen; omega) (by omega) (by rw [World.size_alloc]; have := hHW.out; omega) ?_) | go_in)
      intro v' w1 hown1 hgrow _
      have hb' := hid (show Below w.heap.size w w1 from (hb.out.alloc (by have := hHW.out; omega) _).grown hgrow (by simp; have := hHW.out; omega) (fun b e => (hown.out.lt b e).1))
      have hn1 : Hid (w1.ownsRow w.heap.size 3 1 v' (i + 1) (ints (List.range (i + 1)))) := by
        have := hown1
        rw [List.range_succ, ints_snoc]
        exact this
      clear hown1 hgrow hown
      go_wp2
      go_roundw
      case rel => exact ⟨i + 1, by omega, by simp, hn1, hb'⟩
      case measure => simp [intOf]; omega
    · obtain rfl : N = i := by omega
      have hO : Hid (OrI L w N 1 u3 wr) := ⟨_, _, Nat.le_refl _, hHW.out, hown.out, by have := runs1 L; rwa [hN.out] at this, hb.out⟩
      clear hown hb hHW
      go_wp2_with fail
      go_loopw [3, 5] (fun v ww w2 => ∃ wd : Nat, 1 ≤ wd ∧ wd ≤ 8589934592 ∧ ww = .int .i64 (wd : Int) ∧ Hid (OrI L w N wd v w2)) (fun _ ww _ => N - (intOf ww).toNat)
      case atStart => exact ⟨1, Nat.le_refl _, by omega, rfl, hO⟩
      case round =>
        clear hO
        obtain ⟨wd, hw1, hw2, rfl, hO⟩ := hrel
        by_cases hlt2 : wd < N
        · have hwN : (wd : Int) < (N : Int) := by omega
          obtain ⟨W2, rfl⟩ : ∃ W, W = wr := ⟨_, rfl⟩
          obtain ⟨O, H, h1, h2, hrow, hRuns, hb⟩ := hO.out.ex
          have hOl : Hid (O.length = N) := by show _ = _; rw [hRuns.1, hN.out]
          obtain ⟨o, cap, rfl, hcel⟩ := ownI_at hrow hOl.out
          have hcel' := hid hcel
          have hRuns' := hid hRuns
          have hb2 := hid hb
          have hkW := hid (hk'.out.kept hb)
          obtain ⟨H2, hH2⟩ : ∃ H2, Hid (W2.heap.size = H2) := ⟨_, rfl⟩
          have hwH : Hid (w.heap.size ≤ H2) := by show _ ≤ _; rw [← hH2.out]; exact hb.size
          rw [hH2.out] at hcel'
          clear hrow hRuns hb hcel hO h1 h2 hk'
          go_wp2_with fail
          go_loopw [6, 7] (fun vn ff w3 => ∃ (m q F : Nat) (Q : List Nat), F ≤ N + 17179869184 ∧ ff = .int .i64 (F : Int) ∧ Hid (m * (2 * wd) = F) ∧ Hid (q = Q.length) ∧ Hid (Half L wd m Q) ∧ Hid (w3.ownsRow H2 3 1 vn q (ints Q)) ∧ Hid (Below H2 W2 w3)) (fun _ ff _ => N - (intOf ff).toNat)
          case atStart => exact ⟨0, 0, 0, [], by omega, rfl, by show _ = _; simp, rfl, half0 L wd, World.ownsRow_nil _ _ _ _, by show Below H2 W2 W2; exact Below.refl _ _⟩
          case round =>
            obtain ⟨m, q0, F, Q, hF2, rfl, hF, hq0, hHalf, hownQ, hbQ⟩ := hrel
            obtain ⟨W3, rfl⟩ : ∃ W, W = wr := ⟨_, rfl⟩
            by_cases hlt3 : F < N
            · have hFN : (F : Int) < (N : Int) := by omega
              obtain ⟨MID, hMID, hM1, hM2, hM3⟩ : ∃ MID : Nat, min ((F : Int) + (wd : Int)) (N : Int) = (MID : Int) ∧ F ≤ MID ∧ MID ≤ F + wd ∧ MID ≤ N := ⟨min (F + wd) N, by omega, by omega, by omega, by omega⟩
              obtain ⟨END, hEND, hE1, hE2, hE3⟩ : ∃ END : Nat, min ((MID : Int) + (wd : Int)) (N : Int) = (END : Int) ∧ MID ≤ END ∧ END ≤ MID + wd ∧ END ≤ N := ⟨min (MID + wd) N, by omega, by omega, by omega, by omega⟩
              have hMe : Hid (MID = min (F + wd) N ∧ END = min (MID + wd) N) := ⟨by omega, by omega⟩
              have hRA0 : Hid (Blk L O F wd) := by
                have := hRuns'.out.2 (2 * m)
                rw [show 2 * m * wd = F by rw [← hF.out, Nat.mul_comm 2 m, Nat.mul_assoc]] at this
                exact this
              have hRB0 : Hid (Blk L O (F + wd) wd) := by
                have := hRuns'.out.2 (2 * m + 1)
                rw [show (2 * m + 1) * wd = F + wd by rw [← hF.out, Nat.add_mul, Nat.mul_comm 2 m, Nat.mul_assoc]; omega] at this
                exact this
              have hRA := hid hRA0.out.ris
              have hRB := hid hRB0.out.ris
              have hst4 : Hid (W3.ownsRow H2 3 1 u6 q0 (ints (Q ++ []))) := by show World.ownsRow _ _ _ _ _ _ _; rw [List.append_nil]; exact hownQ.out
              go_wp2_with fail
              go_loopw [6, 10, 11] (fun vn ii kk w4 => ∃ (I K q : Nat) (P : List Nat), F ≤ I ∧ I ≤ MID ∧ MID ≤ K ∧ K ≤ END ∧ ii = .int .i64 (I : Int) ∧ kk = .int .i64 (K : Int) ∧ Hid (q = Q.length + P.length) ∧ Hid (Mrg L (blk O F wd) (blk O (F + wd) wd) P (I - F) (K - MID)) ∧ Hid (w4.ownsRow H2 3 1 vn q (ints (Q ++ P))) ∧ Hid (Below H2 W2 w4)) (fun _ ii kk _ => (MID - (intOf ii).toNat) + (END - (intOf kk).toNat))
              case atStart => exact ⟨F, MID, q0, [], Nat.le_refl _, hM1, Nat.le_refl _, hE1, rfl, rfl, by show _ = _; rw [hq0.out]; simp, by have := mrg0 L (blk O F wd) (blk O (F + wd) wd); show Mrg _ _ _ _ _ _; rw [Nat.sub_self, Nat.sub_self]; exact this, hst4, hbQ⟩
              case round =>
                clear hst4 hownQ hbQ
                obtain ⟨I, K, q, P, hI1, hI2, hK1, hK2, rfl, rfl, hql, hm, hown, hb4⟩ := hrel
                have hHW := hid (show H2 ≤ wr.heap.size by rw [← hH2.out]; exact hb4.out.size)
                have hqb : q ≤ 4294967296 := by
                  have e1 := hm.out.len
                  have e2 := hHalf.out.1
                  have e3 := hql.out
                  rw [hF.out, hN.out] at e2
                  omega
                by_cases hi : I < MID
                · have hiI : (I : Int) < (MID : Int) := by omega
                  by_cases hkk : K < END
                  · have hkI : (K : Int) < (END : Int) := by omega
                    have hkn : ((K : Int) == (END : Int)) = false := by simp; omega
                    obtain ⟨a, haO⟩ : ∃ a, Hid (O[I]? = some a) := ⟨_, List.getElem?_eq_getElem (by rw [hOl.out]; omega)⟩
                    have haA : Hid ((blk O F wd)[I - F]? = some a) := by show _ = _; rw [blk_get (by omega), show F + (I - F) = I by omega]; exact haO.out
                    obtain ⟨go, rfl, hgo, cao⟩ := hcel'.out I a haO.out
                    have ca := (hb4.out.cell (p := ⟨go, I, none⟩) hgo).trans cao
                    have ada : (⟨go, 0, none⟩ : Addr).add I = ⟨go, I, none⟩ := by by_cases h : I = 0 <;> simp [Addr.add, h]
                    have hran := hid ((hRA0.out.rng a (List.mem_of_getElem? haA.out)))
                    obtain ⟨c, hcO⟩ : ∃ c, Hid (O[K]? = some c) := ⟨_, List.getElem?_eq_getElem (by rw [hOl.out]; omega)⟩
                    have hcB : Hid ((blk O (F + wd) wd)[K - MID]? = some c) := by show _ = _; rw [blk_get (by omega), show F + wd + (K - MID) = K by omega]; exact hcO.out
                    obtain ⟨go', hgo2, hgo', cco'⟩ := hcel'.out K c hcO.out
                    obtain rfl : go = go' := by injection hgo2 with e; injection e with e
                    have cco := cco'
                    have cc := (hb4.out.cell (p := ⟨go, K, none⟩) hgo).trans cco
                    have adc : (⟨go, 0, none⟩ : Addr).add K = ⟨go, K, none⟩ := by by_cases h : K = 0 <;> simp [Addr.add, h]
                    have hrcn := hid ((hRB0.out.rng c (List.mem_of_getElem? hcB.out)))
                    obtain ⟨x, hx⟩ : ∃ x, Hid (L[a]? = some x) := ⟨_, List.getElem?_eq_getElem hran.out.2.2⟩
                    obtain ⟨y, hy⟩ : ∃ y, Hid (L[c]? = some y) := ⟨_, List.getElem?_eq_getElem hrcn.out.2.2⟩
                    obtain ⟨-, gk, ok, rfl, hgk, cx⟩ := hkW.out a x hx.out
                    obtain ⟨-, gk', ok', hk2, -, cy⟩ := hkW.out c y hy.out
                    injection hk2 with hk2
                    injection hk2 with e1 e2
                    subst e1 e2
                    rw [hH2.out] at hgk
                    have dx := (hb4.out.cell (p := ⟨gk, ok + a, none⟩) hgk).trans cx
                    have dy := (hb4.out.cell (p := ⟨gk, ok + c, none⟩) hgk).trans cy
                    have adx : (⟨gk, ok, none⟩ : Addr).add a = ⟨gk, ok + a, none⟩ := by by_cases h : a = 0 <;> simp [Addr.add, h]
                    have ady : (⟨gk, ok, none⟩ : Addr).add c = ⟨gk, ok + c, none⟩ := by by_cases h : c = 0 <;> simp [Addr.add, h]
                    have haN : (a : Int) < (N : Int) := by have := hran.out; have := hN.out; omega
                    have hcN : (c : Int) < (N : Int) := by have := hrcn.out; have := hN.out; omega
                    clear cx cy cao cco
                    obtain ⟨z, hz⟩ : ∃ z, (Op.bytesLess x.toList y.toList || x.toList == y.toList) = z := ⟨_, rfl⟩
                    have hac : Hid (z = true → ltK L a c) := fun h => by
                      rw [h] at hz
                      rw [Bool.or_eq_true] at hz
                      rcases hz with h | h
                      · exact .inl (by rw [keyA_get hx.out, keyA_get hy.out]; exact h)
                      · refine .inr ⟨?_, by have := hran.out; have := hrcn.out; omega⟩
                        rw [keyA_get hx.out, keyA_get hy.out]
                        exact toList_inj16 (by simpa using h)
                    have hca : Hid (z = false → ltK L c a) := fun h => by
                      rw [h] at hz
                      rw [Bool.or_eq_false_iff] at hz
                      rcases ltK_total L (show c ≠ a by have := hran.out; have := hrcn.out; omega) with g | g
                      · exact g
                      · exfalso
                        rcases g with g | ⟨g, -⟩
                        · rw [keyA_get hx.out, keyA_get hy.out] at g
                          unfold ltS at g
                          rw [hz.1] at g
                          cases g
                        · rw [keyA_get hx.out, keyA_get hy.out] at g
                          subst g
                          simp at hz
                    cases z
                    · go_wp2
                      go_region
                      have cnew := hid (show wr.drew.cell? ⟨go, K, none⟩ = some (.int .i64 (c : Int)) from cc)
                      have hown' := hid (ownI_below hown.out (w' := wr.drew) ((Below.refl _ _).drew))
                      have hb4' := hid (hb4.out.drew)
                      have hHW' := hid (show H2 ≤ wr.drew.heap.size from hHW.out)
                      clear hown hb4 hHW ca dx dy
                      have hown := hown'
                      have hb4 := hb4'
                      have hHW := hHW'
                      clear hown' hb4' hHW'
                      generalize wr.drew = wz at *
                      have cnew := cnew.out
                      go_wp2_with (first | (at_builtin; refine wpList_append_own _ rfl _ _ 61 rfl H2 3 i0 (.int .i64 0) 1 8 Tryd.underlying61 hi0.out hz0.out hz1.out hz2.out rfl (by decide) _ _ _ rfl (World.ownsRow.alloc hown.out _) ⟨wz.heap.size, 0, none⟩ 1 1 [.int .i64 (c : Int)] rfl rfl (fun j u hj => by match j, hj with | 0, hj => simp at hj; subst hj; simp [Addr.add]) (fun u hu => by simp at hu; subst hu; rfl) (by unfold maxLen; omega) (by omega) (by rw [World.size_alloc]; have := hHW.out; omega) ?_) | go_in)
                      intro v' w5 hown5 hgrow _
                      have hb5 := hid (show Below H2 W2 w5 from (hb4.out.alloc (by have := hHW.out; omega) _).grown hgrow (by simp; have := hHW.out; omega) (fun b e => (hown.out.lt b e).1))
                      have hn5 : Hid (w5.ownsRow H2 3 1 v' (q + 1) (ints (Q ++ (P ++ [c])))) := by
                        have := hown5
                        rw [← List.append_assoc, ints_snoc]
                        exact this
                      have hm5 : Hid (Mrg L (blk O F wd) (blk O (F + wd) wd) (P ++ [c]) (I - F) (K + 1 - MID)) := by
                        have := (hm.out.swap.take hRB.out hRA.out hcB.out (fun b hbB => by
                        rw [haA.out] at hbB
                        injection hbB with e
                        subst e
                        exact hca.out (by simp))).swap
                        rw [show I - F = I - F by omega, show K + 1 - MID = K - MID + 1 by omega]
                        exact this
                      have hq5 : Hid (q + 1 = Q.length + (P ++ [c]).length) := by
                        have := hql.out
                        show _ = _
                        rw [List.length_append]
                        simp
                        omega
                      clear hown5 hgrow hown
                      go_wp2
                      go_roundw
                      case rel => exact ⟨I, K + 1, q + 1, P ++ [c], by omega, by omega, by omega, by omega, rfl, by simp, hq5, hm5, hn5, hb5⟩
                      case measure => simp [intOf]; omega
                    · go_wp2
                      go_region
                      have cnew := hid (show wr.drew.cell? ⟨go, I, none⟩ = some (.int .i64 (a : Int)) from ca)
                      have hown' := hid (ownI_below hown.out (w' := wr.drew) ((Below.refl _ _).drew))
                      have hb4' := hid (hb4.out.drew)
                      have hHW' := hid (show H2 ≤ wr.drew.heap.size from hHW.out)
                      clear hown hb4 hHW cc dx dy
                      have hown := hown'
                      have hb4 := hb4'
                      have hHW := hHW'
                      clear hown' hb4' hHW'
                      generalize wr.drew = wz at *
                      have cnew := cnew.out
                      go_wp2_with (first | (at_builtin; refine wpList_append_own _ rfl _ _ 61 rfl H2 3 i0 (.int .i64 0) 1 8 Tryd.underlying61 hi0.out hz0.out hz1.out hz2.out rfl (by decide) _ _ _ rfl (World.ownsRow.alloc hown.out _) ⟨wz.heap.size, 0, none⟩ 1 1 [.int .i64 (a : Int)] rfl rfl (fun j u hj => by match j, hj with | 0, hj => simp at hj; subst hj; simp [Addr.add]) (fun u hu => by simp at hu; subst hu; rfl) (by unfold maxLen; omega) (by omega) (by rw [World.size_alloc]; have := hHW.out; omega) ?_) | go_in)
                      intro v' w5 hown5 hgrow _
                      have hb5 := hid (show Below H2 W2 w5 from (hb4.out.alloc (by have := hHW.out; omega) _).grown hgrow (by simp; have := hHW.out; omega) (fun b e => (hown.out.lt b e).1))
                      have hn5 : Hid (w5.ownsRow H2 3 1 v' (q + 1) (ints (Q ++ (P ++ [a])))) := by
                        have := hown5
                        rw [← List.append_assoc, ints_snoc]
                        exact this
                      have hm5 : Hid (Mrg L (blk O F wd) (blk O (F + wd) wd) (P ++ [a]) (I + 1 - F) (K - MID)) := by
                        have := hm.out.take hRA.out hRB.out haA.out (fun b hbB => by
                        rw [hcB.out] at hbB
                        injection hbB with e
                        subst e
                        exact hac.out (by simp))
                        rw [show I + 1 - F = I - F + 1 by omega, show K - MID = K - MID by omega]
                        exact this
                      have hq5 : Hid (q + 1 = Q.length + (P ++ [a]).length) := by
                        have := hql.out
                        show _ = _
                        rw [List.length_append]
                        simp
                        omega
                      clear hown5 hgrow hown
                      go_wp2
                      go_roundw
                      case rel => exact ⟨I + 1, K, q + 1, P ++ [a], by omega, by omega, by omega, by omega, by simp, rfl, hq5, hm5, hn5, hb5⟩
                      case measure => simp [intOf]; omega
                  · have hkI : (END : Int) ≤ (K : Int) := by omega
                    have hkn : ((K : Int) == (END : Int)) = true := by simp; omega
                    obtain ⟨a, haO⟩ : ∃ a, Hid (O[I]? = some a) := ⟨_, List.getElem?_eq_getElem (by rw [hOl.out]; omega)⟩
                    have haA : Hid ((blk O F wd)[I - F]? = some a) := by show _ = _; rw [blk_get (by omega), show F + (I - F) = I by omega]; exact haO.out
                    obtain ⟨go, rfl, hgo, cao⟩ := hcel'.out I a haO.out
                    have ca := (hb4.out.cell (p := ⟨go, I, none⟩) hgo).trans cao
                    have ada : (⟨go, 0, none⟩ : Addr).add I = ⟨go, I, none⟩ := by by_cases h : I = 0 <;> simp [Addr.add, h]
                    have hran := hid ((hRA0.out.rng a (List.mem_of_getElem? haA.out)))
                    go_wp2
                    go_region
                    have cnew := hid (show wr.drew.cell? ⟨go, I, none⟩ = some (.int .i64 (a : Int)) from ca)
                    have hown' := hid (ownI_below hown.out (w' := wr.drew) ((Below.refl _ _).drew))
                    have hb4' := hid (hb4.out.drew)
                    have hHW' := hid (show H2 ≤ wr.drew.heap.size from hHW.out)
                    clear hown hb4 hHW cao
                    have hown := hown'
                    have hb4 := hb4'
                    have hHW := hHW'
                    clear hown' hb4' hHW'
                    generalize wr.drew = wz at *
                    have cnew := cnew.out
                    go_wp2_with (first | (at_builtin; refine wpList_append_own _ rfl _ _ 61 rfl H2 3 i0 (.int .i64 0) 1 8 Tryd.underlying61 hi0.out hz0.out hz1.out hz2.out rfl (by decide) _ _ _ rfl (World.ownsRow.alloc hown.out _) ⟨wz.heap.size, 0, none⟩ 1 1 [.int .i64 (a : Int)] rfl rfl (fun j u hj => by match j, hj with | 0, hj => simp at hj; subst hj; simp [Addr.add]) (fun u hu => by simp at hu; subst hu; rfl) (by unfold maxLen; omega) (by omega) (by rw [World.size_alloc]; have := hHW.out; omega) ?_) | go_in)
                    intro v' w5 hown5 hgrow _
                    have hb5 := hid (show Below H2 W2 w5 from (hb4.out.alloc (by have := hHW.out; omega) _).grown hgrow (by simp; have := hHW.out; omega) (fun b e => (hown.out.lt b e).1))
                    have hn5 : Hid (w5.ownsRow H2 3 1 v' (q + 1) (ints (Q ++ (P ++ [a])))) := by
                      have := hown5
                      rw [← List.append_assoc, ints_snoc]
                      exact this
                    have hm5 : Hid (Mrg L (blk O F wd) (blk O (F + wd) wd) (P ++ [a]) (I + 1 - F) (K - MID)) := by
                      have := hm.out.take hRA.out hRB.out haA.out (fun b hbB => by
                      rw [List.getElem?_eq_none (by rw [blk_len, hOl.out]; have := hMe.out; omega)] at hbB
                      cases hbB)
                      rw [show I + 1 - F = I - F + 1 by omega, show K - MID = K - MID by omega]
                      exact this
                    have hq5 : Hid (q + 1 = Q.length + (P ++ [a]).length) := by
                      have := hql.out
                      show _ = _
                      rw [List.length_append]
                      simp
                      omega
                    clear hown5 hgrow hown
                    go_wp2
                    go_roundw
                    case rel => exact ⟨I + 1, K, q + 1, P ++ [a], by omega, by omega, by omega, by omega, by simp, rfl, hq5, hm5, hn5, hb5⟩
                    case measure => simp [intOf]; omega
                · have hiI : (MID : Int) ≤ (I : Int) := by omega
                  by_cases hkk : K < END
                  · have hkI : (K : Int) < (END : Int) := by omega
                    have hkn : ((K : Int) == (END : Int)) = false := by simp; omega
                    obtain ⟨c, hcO⟩ : ∃ c, Hid (O[K]? = some c) := ⟨_, List.getElem?_eq_getElem (by rw [hOl.out]; omega)⟩
                    have hcB : Hid ((blk O (F + wd) wd)[K - MID]? = some c) := by show _ = _; rw [blk_get (by omega), show F + wd + (K - MID) = K by omega]; exact hcO.out
                    obtain ⟨go, rfl, hgo, cco⟩ := hcel'.out K c hcO.out
                    have cc := (hb4.out.cell (p := ⟨go, K, none⟩) hgo).trans cco
                    have adc : (⟨go, 0, none⟩ : Addr).add K = ⟨go, K, none⟩ := by by_cases h : K = 0 <;> simp [Addr.add, h]
                    have hrcn := hid ((hRB0.out.rng c (List.mem_of_getElem? hcB.out)))
                    go_wp2
                    go_region
                    have cnew := hid (show wr.drew.cell? ⟨go, K, none⟩ = some (.int .i64 (c : Int)) from cc)
                    have hown' := hid (ownI_below hown.out (w' := wr.drew) ((Below.refl _ _).drew))
                    have hb4' := hid (hb4.out.drew)
                    have hHW' := hid (show H2 ≤ wr.drew.heap.size from hHW.out)
                    clear hown hb4 hHW cco
                    have hown := hown'
                    have hb4 := hb4'
                    have hHW := hHW'
                    clear hown' hb4' hHW'
                    generalize wr.drew = wz at *
                    have cnew := cnew.out
                    go_wp2_with (first | (at_builtin; refine wpList_append_own _ rfl _ _ 61 rfl H2 3 i0 (.int .i64 0) 1 8 Tryd.underlying61 hi0.out hz0.out hz1.out hz2.out rfl (by decide) _ _ _ rfl (World.ownsRow.alloc hown.out _) ⟨wz.heap.size, 0, none⟩ 1 1 [.int .i64 (c : Int)] rfl rfl (fun j u hj => by match j, hj with | 0, hj => simp at hj; subst hj; simp [Addr.add]) (fun u hu => by simp at hu; subst hu; rfl) (by unfold maxLen; omega) (by omega) (by rw [World.size_alloc]; have := hHW.out; omega) ?_) | go_in)
                    intro v' w5 hown5 hgrow _
                    have hb5 := hid (show Below H2 W2 w5 from (hb4.out.alloc (by have := hHW.out; omega) _).grown hgrow (by simp; have := hHW.out; omega) (fun b e => (hown.out.lt b e).1))
                    have hn5 : Hid (w5.ownsRow H2 3 1 v' (q + 1) (ints (Q ++ (P ++ [c])))) := by
                      have := hown5
                      rw [← List.append_assoc, ints_snoc]
                      exact this
                    have hm5 : Hid (Mrg L (blk O F wd) (blk O (F + wd) wd) (P ++ [c]) (I - F) (K + 1 - MID)) := by
                      have := (hm.out.swap.take hRB.out hRA.out hcB.out (fun b hbB => by
                      rw [List.getElem?_eq_none (by rw [blk_len, hOl.out]; have := hMe.out; omega)] at hbB
                      cases hbB)).swap
                      rw [show I - F = I - F by omega, show K + 1 - MID = K - MID + 1 by omega]
                      exact this
                    have hq5 : Hid (q + 1 = Q.length + (P ++ [c]).length) := by
                      have := hql.out
                      show _ = _
                      rw [List.length_append]
                      simp
                      omega
                    clear hown5 hgrow hown
                    go_wp2
                    go_roundw
                    case rel => exact ⟨I, K + 1, q + 1, P ++ [c], by omega, by omega, by omega, by omega, rfl, by simp, hq5, hm5, hn5, hb5⟩
                    case measure => simp [intOf]; omega
                  · have hkI : (END : Int) ≤ (K : Int) := by omega
                    have hfull : Hid (Half L wd (m + 1) (Q ++ P)) := by
                      refine hHalf.out.next (by omega) (by rw [hF.out, hN.out]; exact hlt3) hRuns'.out ?_
                      rw [hF.out, blk_len, blk_len, hOl.out]
                      have := hm.out
                      have e := hMe.out
                      rw [show I - F = min wd (N - F) by omega, show K - MID = min wd (N - (F + wd)) by omega] at this
                      exact this
                    have hF5 : Hid ((m + 1) * (2 * wd) = F + 2 * wd) := by show _ = _; rw [Nat.add_mul, hF.out]; omega
                    have hq5 : Hid (q = (Q ++ P).length) := by show _ = _; rw [List.length_append]; exact hql.out
                    clear hm hHalf hql
                    go_wp2
                    go_roundw
                    case rel => exact ⟨m + 1, q, F + 2 * wd, Q ++ P, by omega, by simp, hF5, hq5, hfull, hown, hb4⟩
                    case measure => simp [intOf]; omega
            · have hFN : (N : Int) ≤ (F : Int) := by omega
              have hR2 : Hid (OrI L w N (2 * wd) u6 W3) := by
                have hd := hHalf.out.done (by rw [hF.out, hN.out]; omega)
                refine ⟨Q, H2, hwH.out, by rw [← hH2.out]; exact hbQ.out.size, ?_, hd, hb2.out.trans (hbQ.out.mono hwH.out)⟩
                have : q0 = N := by rw [hq0.out, hd.1, hN.out]
                rw [← this]
                exact hownQ.out
              clear hHalf hownQ hbQ hq0
              go_wp2
              go_roundw
              case rel => exact ⟨2 * wd, by omega, by omega, by simp, hR2⟩
              case measure => simp [intOf]; omega
        · have hwN : (N : Int) ≤ (wd : Int) := by omega
          obtain ⟨O, H, h1, h2, hrow, hRuns, hb⟩ := hO.out.ex
          have hG : Hid (OrdP L w (.returned u3) wr) := ⟨u3, O, H, rfl, h1, by rw [hN.out]; exact hrow, hRuns.done (by rw [hN.out]; omega), hb⟩
          clear hO hrow hRuns hb
          go_wp2
          go_ret
          exact hG.out
end Go.Proofs.YthfbmelfflpenaaDoor

/- quarryref17.Place: the first place of a name, by the places in order. -/
namespace Go.Proofs.YthfbmelfflpenaaDoor
open Go.RowKit Go.Shelf

theorem ltK_less {L : List ByteArray} {a b : Nat} {nm : ByteArray} (h : ltK L a b) (hb : ltS (keyA L b) nm = true) : ltS (keyA L a) nm = true := by
  rcases h with h | ⟨h, -⟩
  · exact bl_trans _ _ _ h hb
  · rw [h]; exact hb
theorem ltK_more {L : List ByteArray} {a b : Nat} {nm : ByteArray} (h : ltK L a b) (ha : ltS (keyA L a) nm = false) : ltS (keyA L b) nm = false := by
  cases hb : ltS (keyA L b) nm with
  | false => rfl
  | true => rw [ltK_less h hb] at ha; cases ha
/-- So far: what stands ahead is less, what stands behind isn't. -/
structure Bin (L : List ByteArray) (O : List Nat) (nm : ByteArray) (lo hi : Nat) : Prop where
  le : lo ≤ hi
  lt : ∀ j a : Nat, j < lo → O[j]? = some a → ltS (keyA L a) nm = true
  ge : ∀ j a : Nat, hi ≤ j → O[j]? = some a → ltS (keyA L a) nm = false
theorem bin0 (L : List ByteArray) (O : List Nat) (nm : ByteArray) : Bin L O nm 0 O.length := ⟨Nat.zero_le _, fun j a h => by omega, fun j a h hj => by
  have := (List.getElem?_eq_some_iff.mp hj).1
  omega⟩
theorem Bin.up {L : List ByteArray} {O : List Nat} {nm : ByteArray} {lo hi md a : Nat} (h : Bin L O nm lo hi) (hO : IsOrd L O) (h2 : md < hi) (ha : O[md]? = some a) (hl : ltS (keyA L a) nm = true) : Bin L O nm (md + 1) hi :=
  ⟨by omega, fun j b hj hb => by
    by_cases e : j = md
    · subst e; rw [ha] at hb; injection hb with hb; subst hb; exact hl
    · exact ltK_less (hO.lt hb ha (by omega)) hl, h.ge⟩
theorem Bin.down {L : List ByteArray} {O : List Nat} {nm : ByteArray} {lo hi md a : Nat} (h : Bin L O nm lo hi) (hO : IsOrd L O) (h1 : lo ≤ md) (ha : O[md]? = some a) (hl : ltS (keyA L a) nm = false) : Bin L O nm lo md :=
  ⟨h1, h.lt, fun j b hj hb => by
    by_cases e : j = md
    · subst e; rw [ha] at hb; injection hb with hb; subst hb; exact hl
    · exact ltK_more (hO.lt ha hb (by omega)) hl⟩
theorem Bin.none {L : List ByteArray} {O : List Nat} {nm : ByteArray} {lo : Nat} (h : Bin L O nm lo lo) (hO : IsOrd L O) (hn : ∀ a, O[lo]? = some a → keyA L a ≠ nm) : IsFst L nm (-1) := by
  refine .inl ⟨rfl, fun j hj => ?_⟩
  have hjl := (List.getElem?_eq_some_iff.mp hj).1
  obtain ⟨p, hp⟩ := hO.all hjl
  have hk := keyA_get hj
  have hirr : ltS nm nm = false := bl_irrefl _
  rcases Nat.lt_trichotomy p lo with e | e | e
  · have := h.lt p j e hp
    rw [hk, hirr] at this
    cases this
  · subst e
    exact hn j hp hk
  · have hlo : lo < O.length := by have := (List.getElem?_eq_some_iff.mp hp).1; omega
    obtain ⟨a, ha⟩ : ∃ a, O[lo]? = some a := ⟨_, List.getElem?_eq_getElem hlo⟩
    have h1 := h.ge lo a (Nat.le_refl _) ha
    rcases hO.lt ha hp e with g | ⟨g, -⟩
    · rw [hk] at g
      rw [g] at h1
      cases h1
    · exact hn a ha (by rw [g, hk])
theorem Bin.some {L : List ByteArray} {O : List Nat} {nm : ByteArray} {lo a : Nat} (h : Bin L O nm lo lo) (hO : IsOrd L O) (ha : O[lo]? = Option.some a) (hk : keyA L a = nm) : IsFst L nm (a : Int) := by
  have hal := hO.rng a (List.mem_of_getElem? ha)
  refine .inr ⟨a, rfl, ?_, fun j hj hjn => ?_⟩
  · have : L[a]? = Option.some (L[a]) := List.getElem?_eq_getElem hal
    rw [this, ← keyA_get this, hk]
  · have hjl := (List.getElem?_eq_some_iff.mp hjn).1
    obtain ⟨p, hp⟩ := hO.all hjl
    have hkj := keyA_get hjn
    have hirr : ltS nm nm = false := bl_irrefl _
    rcases Nat.lt_trichotomy p lo with e | e | e
    · have := h.lt p j e hp
      rw [hkj, hirr] at this
      cases this
    · subst e
      rw [ha] at hp
      injection hp with hp
      omega
    · rcases hO.lt ha hp e with g | ⟨-, g⟩
      · rw [hk, hkj, hirr] at g
        cases g
      · omega
/-- Places in memory. -/
def OrdAt (w : World) (oo : Option Addr) (O : List Nat) : Prop := ∀ t p : Nat, O[t]? = some p → ∃ g, oo = some ⟨g, 0, none⟩ ∧ g < w.heap.size ∧ w.cell? ⟨g, t, none⟩ = some (.int .i64 (p : Int))
theorem OrdAt.kept {w w' : World} {oo : Option Addr} {O : List Nat} (h : OrdAt w oo O) (hb : Below w.heap.size w w') : OrdAt w' oo O := fun t p ht => by
  obtain ⟨g, h1, h2, h3⟩ := h t p ht
  exact ⟨g, h1, by have := hb.size; omega, (hb.cell (p := ⟨g, t, none⟩) h2).trans h3⟩
set_option maxRecDepth 10000 in
set_option maxHeartbeats 4000000 in
theorem place_calls (L : List ByteArray) (O : List Nat) (nm : ByteArray) (ko : Option Addr) (kc : Nat) (oo : Option Addr) (oc : Nat) (hl : L.length ≤ 4294967296) (w : World) (hk : KeysAt w ko L) (ho : OrdAt w oo O) (hO : Hid (IsOrd L O)) (f : Int) (hf : Hid (IsFst L nm f)) :
    Calls Tryd.prog 49 #[.slice ko L.length kc, .slice oo L.length oc, .string nm] w fun e w' => e = .returned (.int .i64 f) ∧ w' = w := by
  obtain ⟨N, hN⟩ : ∃ N, Hid (L.length = N) := ⟨_, rfl⟩
  have hOl : Hid (O.length = N) := by show _ = _; rw [hO.out.len, hN.out]
  have hk' := hid hk
  have ho' := hid ho
  rw [hN.out] at hl ⊢
  have hNi : (N : Int) ≤ 4294967296 := by omega
  clear hk ho
  go_enter Tryd.func49, Tryd.ntmps49
  go_wp2_with fail
  go_loop [7, 8, 9] (fun aa bb _ => ∃ lo hi : Nat, lo ≤ hi ∧ hi ≤ N ∧ aa = .int .i64 (lo : Int) ∧ bb = .int .i64 (hi : Int) ∧ Hid (Bin L O nm lo hi)) (fun aa bb _ => (intOf bb).toNat - (intOf aa).toNat)
  case atStart => exact ⟨0, N, Nat.zero_le _, Nat.le_refl _, rfl, rfl, by have := bin0 L O nm; rw [hOl.out] at this; exact this⟩
  case round =>
    obtain ⟨lo, hi, hlh, hhN, rfl, rfl, hB⟩ := hrel
    by_cases hlt : lo < hi
    · have hli : (lo : Int) < (hi : Int) := by omega
      obtain ⟨md, hmd, hm1, hm2⟩ : ∃ md : Nat, ((lo : Int) + (hi : Int)).tdiv 2 = (md : Int) ∧ lo ≤ md ∧ md < hi := ⟨(lo + hi) / 2, by rw [Int.tdiv_eq_ediv_of_nonneg (by omega)]; omega, by omega, by omega⟩
      obtain ⟨a, ha⟩ : ∃ a, Hid (O[md]? = some a) := ⟨_, List.getElem?_eq_getElem (by rw [hOl.out]; omega)⟩
      obtain ⟨g, rfl, hg, ca⟩ := ho'.out md a ha.out
      have ada : (⟨g, 0, none⟩ : Addr).add md = ⟨g, md, none⟩ := by by_cases h : md = 0 <;> simp [Addr.add, h]
      have haL := hid (hO.out.rng a (List.mem_of_getElem? ha.out))
      have haN : (a : Int) < (N : Int) := by have := haL.out; have := hN.out; omega
      obtain ⟨x, hx⟩ : ∃ x, Hid (L[a]? = some x) := ⟨_, List.getElem?_eq_getElem haL.out⟩
      obtain ⟨-, gk, ok, rfl, hgk, cx⟩ := hk'.out a x hx.out
      have adx : (⟨gk, ok, none⟩ : Addr).add a = ⟨gk, ok + a, none⟩ := by by_cases h : a = 0 <;> simp [Addr.add, h]
      have hmN : (md : Int) < (N : Int) := by omega
      obtain ⟨z, hz⟩ : ∃ z, Op.bytesLess x.toList nm.toList = z := ⟨_, rfl⟩
      have hzl : Hid (ltS (keyA L a) nm = z) := by show _ = _; rw [keyA_get hx.out]; exact hz
      cases z
      · have hB2 := hid (hB.out.down hO.out hm1 ha.out hzl.out)
        clear hB
        go_wp2
        go_round
        case rel => exact ⟨lo, md, hm1, by omega, rfl, rfl, hB2⟩
        case measure => simp [intOf]; omega
      · have hB2 := hid (hB.out.up hO.out hm2 ha.out hzl.out)
        clear hB
        go_wp2
        go_round
        case rel => exact ⟨md + 1, hi, by omega, hhN, by simp, rfl, hB2⟩
        case measure => simp [intOf]; omega
    · obtain rfl : lo = hi := by omega
      by_cases hend : lo = N
      · have e1 : ((lo : Int) == (N : Int)) = true := by simp [hend]
        have hfin : Hid (f = -1) := hf.out.uniq (hB.out.none hO.out (fun a ha => by
          have := (List.getElem?_eq_some_iff.mp ha).1
          rw [hOl.out] at this
          omega))
        clear hB hend
        go_wp2
        go_ret
        exact ⟨by rw [hfin.out]; rfl, rfl⟩
      · have e1 : ((lo : Int) == (N : Int)) = false := by simp; omega
        have hlN : (lo : Int) < (N : Int) := by omega
        obtain ⟨a, ha⟩ : ∃ a, Hid (O[lo]? = some a) := ⟨_, List.getElem?_eq_getElem (by rw [hOl.out]; omega)⟩
        obtain ⟨g, rfl, hg, ca⟩ := ho'.out lo a ha.out
        have ada : (⟨g, 0, none⟩ : Addr).add lo = ⟨g, lo, none⟩ := by by_cases h : lo = 0 <;> simp [Addr.add, h]
        have haL := hid (hO.out.rng a (List.mem_of_getElem? ha.out))
        have haN : (a : Int) < (N : Int) := by have := haL.out; have := hN.out; omega
        obtain ⟨x, hx⟩ : ∃ x, Hid (L[a]? = some x) := ⟨_, List.getElem?_eq_getElem haL.out⟩
        obtain ⟨-, gk, ok, rfl, hgk, cx⟩ := hk'.out a x hx.out
        have adx : (⟨gk, ok, none⟩ : Addr).add a = ⟨gk, ok + a, none⟩ := by by_cases h : a = 0 <;> simp [Addr.add, h]
        by_cases hxn : x = nm
        · have hfin : Hid (f = (a : Int)) := hf.out.uniq (hB.out.some hO.out ha.out (by rw [keyA_get hx.out, hxn]))
          subst hxn
          have e2 : (x.toList == x.toList) = true := by simp
          clear hB
          go_wp2
          go_ret
          exact ⟨by rw [hfin.out]; rfl, rfl⟩
        · have hfin : Hid (f = -1) := hf.out.uniq (hB.out.none hO.out (fun b hb => by
            rw [ha.out] at hb
            injection hb with hb
            subst hb
            rw [keyA_get hx.out]
            exact hxn))
          have e2 : ¬ x.toList = nm.toList := fun h => hxn (toList_inj16 h)
          have e3 : (x.toList == nm.toList) = false := by simp [e2]
          clear hB
          go_wp2
          go_ret
          exact ⟨by rw [hfin.out]; rfl, rfl⟩
end Go.Proofs.YthfbmelfflpenaaDoor

/- quarryref17.has: does one object have all names of another? -/
namespace Go.Proofs.YthfbmelfflpenaaDoor
open Go.RowKit Go.Shelf

theorem fst_ex17 (ks : List ByteArray) (nm : ByteArray) : ∃ f, IsFst ks nm f := by
  have key : ∀ n : Nat, (∃ i, i < n ∧ ks[i]? = some nm ∧ ∀ j, j < i → ks[j]? ≠ some nm) ∨ ∀ j, j < n → ks[j]? ≠ some nm := by
    intro n
    induction n with
    | zero => exact .inr (fun j hj => by omega)
    | succ n ih =>
      rcases ih with ⟨i, h1, h2, h3⟩ | h
      · exact .inl ⟨i, by omega, h2, h3⟩
      · by_cases hn : ks[n]? = some nm
        · exact .inl ⟨n, by omega, hn, h⟩
        · exact .inr (fun j hj => by
            by_cases e : j = n
            · subst e; exact hn
            · exact h j (by omega))
  rcases key ks.length with ⟨i, h1, h2, h3⟩ | h
  · exact ⟨(i : Int), .inr ⟨i, rfl, h2, h3⟩⟩
  · refine ⟨-1, .inl ⟨rfl, fun j hj => ?_⟩⟩
    exact h j (List.getElem?_eq_some_iff.mp hj).1 hj
theorem fst_neg {ks : List ByteArray} {nm : ByteArray} {f : Int} (h : IsFst ks nm f) : f < 0 ↔ ∀ j : Nat, ks[j]? ≠ some nm := by
  rcases h with ⟨rfl, h⟩ | ⟨i, rfl, h, -⟩
  · exact ⟨fun _ => h, fun _ => by omega⟩
  · exact ⟨fun x => by omega, fun x => absurd h (x i)⟩
theorem fst_lo {ks : List ByteArray} {nm : ByteArray} {f : Int} (h : IsFst ks nm f) : -1 ≤ f ∧ f < (ks.length : Int) + 1 := by
  rcases h with ⟨rfl, h⟩ | ⟨i, rfl, h, -⟩
  · omega
  · have := (List.getElem?_eq_some_iff.mp h).1
    omega
set_option maxRecDepth 10000 in
set_option maxHeartbeats 8000000 in
theorem has17_calls (t u : Vt) (va vb : Value) (w : World) (ha : ValAt w t va) (hb : ValAt w u vb) (hlu : u.keys.length ≤ 4294967296) (B : Bool) (hB : Hid (B = true ↔ ∀ (i : Nat) (k : ByteArray), t.keys[i]? = some k → ∃ j : Nat, u.keys[j]? = some k)) :
    Calls Tryd.prog 37 #[va, vb] w fun e w' => e = .returned (.bool B) ∧ Below w.heap.size w w' := by
  cases ha with
  | mk k b r t ks vs ko kc vo vc X hw hz hk hr hv =>
  cases hb with
  | mk k2 b2 r2 t2 ks2 vs2 ko2 kc2 vo2 vc2 X2 hw2 hz2 hk2 hr2 hv2 =>
  have hk' := hid hk
  have hk2' := hid hk2
  have hlu' := hid hlu
  have hB' : Hid (B = true ↔ ∀ (i : Nat) (k : ByteArray), ks[i]? = some k → ∃ j : Nat, ks2[j]? = some k) := hB
  clear hlu
  obtain ⟨N, hN⟩ : ∃ N, Hid (ks.length = N) := ⟨_, rfl⟩
  obtain ⟨N2, hN2⟩ : ∃ N, Hid (ks2.length = N) := ⟨_, rfl⟩
  obtain ⟨M, hM⟩ : ∃ M, Hid (vs.length = M) := ⟨_, rfl⟩
  obtain ⟨M2, hM2⟩ : ∃ M, Hid (vs2.length = M) := ⟨_, rfl⟩
  have hNi : (N : Int) ≤ 140737488351232 := by have := hz.2.2.1; rw [hN.out] at this; unfold capT at this; omega
  have hlo : ks2.length ≤ 4294967296 := hlu'.out
  have hord := hid (fun u0 (hu : KeysAt u0 ko2 ks2) => ordered_calls ks2 ko2 kc2 hlo u0 hu)
  have hplc := hid (fun (O : List Nat) (nm : ByteArray) (oo : Option Addr) (oc : Nat) (u0 : World) (h1 : KeysAt u0 ko2 ks2) (h2 : OrdAt u0 oo O) (h3 : Hid (IsOrd ks2 O)) (f : Int) (h4 : Hid (IsFst ks2 nm f)) => place_calls ks2 O nm ko2 kc2 oo oc hlo u0 h1 h2 h3 f h4)
  rw [hN2.out] at hlo hord hplc
  rw [hN.out, hN2.out, hM.out, hM2.out]
  clear hw hz hk hr hv hw2 hz2 hk2 hr2 hv2 hB
  have A1 : Hid (At ((w.alloc (.cells #[.int .i64 k, .bool b, .string r, .string t, .slice ko N kc, .slice vo M vc] 25)).alloc (.cells #[.int .i64 k2, .bool b2, .string r2, .string t2, .slice ko2 N2 kc2, .slice vo2 M2 vc2] 25)) w.heap.size #[.int .i64 k, .bool b, .string r, .string t, .slice ko N kc, .slice vo M vc] 25) := (At.new _ _ _).alloc _
  have A2 : Hid (At ((w.alloc (.cells #[.int .i64 k, .bool b, .string r, .string t, .slice ko N kc, .slice vo M vc] 25)).alloc (.cells #[.int .i64 k2, .bool b2, .string r2, .string t2, .slice ko2 N2 kc2, .slice vo2 M2 vc2] 25)) (w.heap.size + 1) #[.int .i64 k2, .bool b2, .string r2, .string t2, .slice ko2 N2 kc2, .slice vo2 M2 vc2] 25) := by
    have := At.new (w.alloc (.cells #[.int .i64 k, .bool b, .string r, .string t, .slice ko N kc, .slice vo M vc] 25)) #[.int .i64 k2, .bool b2, .string r2, .string t2, .slice ko2 N2 kc2, .slice vo2 M2 vc2] 25
    rwa [World.size_alloc] at this
  have B1 : Hid (Below w.heap.size w ((w.alloc (.cells #[.int .i64 k, .bool b, .string r, .string t, .slice ko N kc, .slice vo M vc] 25)).alloc (.cells #[.int .i64 k2, .bool b2, .string r2, .string t2, .slice ko2 N2 kc2, .slice vo2 M2 vc2] 25))) := by
    show Below _ _ _
    repeat (first | with_reducible exact Below.refl _ _ | with_reducible refine Below.setCell ?_ (by first | (simp; done) | (simp; omega)) _ | with_reducible refine below_drewN ?_ _ | with_reducible refine Below.alloc ?_ (by first | (simp; done) | (simp; omega)) _ | with_reducible refine Below.drew ?_)
  go_enter Tryd.func37, Tryd.ntmps37
  go_upto_region 1 with fail
  generalize (w.alloc (.cells #[.int .i64 k, .bool b, .string r, .string t, .slice ko N kc, .slice vo M vc] 25)).alloc (.cells #[.int .i64 k2, .bool b2, .string r2, .string t2, .slice ko2 N2 kc2, .slice vo2 M2 vc2] 25) = W at A1 A2 B1 ⊢
  have d4 : W.cell? ⟨w.heap.size + 1, 4, none⟩ = some (.slice ko2 N2 kc2) := A2.out.cell 4
  have hcl := hid (hord.out W (hk2'.out.kept B1.out))
  go_wp2_with fail
  refine Calls.mono hcl.out ?_
  rintro e w1 ⟨v1, O, H, rfl, hH, hrow, hO, hb1⟩
  rw [hN2.out] at hrow
  obtain ⟨oo, oc, rfl, hoa⟩ := ownI_at hrow (by rw [hO.len, hN2.out])
  have hO' := hid hO
  have hoa' := hid (show OrdAt w1 oo O from hoa)
  have J1 := hid (A1.out.keptAll hb1)
  have J2 := hid (A2.out.keptAll hb1)
  have Jb := hid (B1.out.trans (hb1.mono B1.out.size))
  clear hcl hrow hO hoa hb1 d4 A1 A2 B1 hord
  go_wp2_with fail
  go_loopw [6] (fun ii wr => ∃ i : Nat, i ≤ N ∧ ii = .int .i64 (i : Int) ∧ Hid (∀ (j : Nat) (k : ByteArray), j < i → ks[j]? = some k → ∃ q : Nat, ks2[q]? = some k) ∧ Hid (At wr w.heap.size #[.int .i64 k, .bool b, .string r, .string t, .slice ko N kc, .slice vo M vc] 25) ∧ Hid (At wr (w.heap.size + 1) #[.int .i64 k2, .bool b2, .string r2, .string t2, .slice ko2 N2 kc2, .slice vo2 M2 vc2] 25) ∧ Hid (OrdAt wr oo O) ∧ Hid (Below w.heap.size w wr)) (fun ii _ => N - (intOf ii).toNat)
  case atStart => exact ⟨0, Nat.zero_le _, rfl, fun j k h => by omega, J1, J2, hoa', Jb⟩
  case round =>
    clear J1 J2 Jb hoa'
    obtain ⟨i, hi, rfl, hI, J1, J2, hoa, Jb⟩ := hrel
    have c4 := J1.out.cell 4
    simp only [List.getElem?_toArray, List.getElem?_cons_zero, List.getElem?_cons_succ] at c4
    by_cases hlt : i < N
    · have hli : (i : Int) < (N : Int) := by omega
      obtain ⟨sk, hsk⟩ : ∃ sk, Hid (ks[i]? = some sk) := ⟨_, List.getElem?_eq_getElem (by rw [hN.out]; exact hlt)⟩
      obtain ⟨-, gk, ok, rfl, hgk, cgk⟩ := hk'.out i sk hsk.out
      have s1 := (Jb.out.cell (p := ⟨gk, ok + i, none⟩) hgk).trans cgk
      have ad1 : (⟨gk, ok, none⟩ : Addr).add i = ⟨gk, ok + i, none⟩ := by by_cases h : i = 0 <;> simp [Addr.add, h]
      obtain ⟨f, hf⟩ : ∃ f, Hid (IsFst ks2 sk f) := fst_ex17 ks2 sk
      have d4 : wr.cell? ⟨w.heap.size + 1, 4, none⟩ = some (.slice ko2 N2 kc2) := J2.out.cell 4
      have hx0 : (wr.drew.cell? ⟨w.heap.size, 4, none⟩ = some (.slice (some ⟨gk, ok, none⟩) N kc) ∧ wr.drew.cell? ⟨w.heap.size + 1, 4, none⟩ = some (.slice ko2 N2 kc2)) ∧ wr.drew.cell? ⟨gk, ok + i, none⟩ = some (.string sk) := ⟨⟨c4, d4⟩, s1⟩
      have q0 := hid (show Below wr.heap.size wr wr.drew from (Below.refl _ _).drew)
      have hcall := hid (hplc.out O sk oo oc wr.drew (hk2'.out.kept (Jb.out.trans (q0.out.mono Jb.out.size))) (hoa.out.kept q0.out) hO' f hf)
      have K1 := hid (J1.out.keptAll q0.out)
      have K2 := hid (J2.out.keptAll q0.out)
      have Ko := hid (hoa.out.kept q0.out)
      have Kb := hid (Jb.out.trans (q0.out.mono Jb.out.size))
      go_wp2
      refine wp_region_held_drew (S := fun w' => (w'.cell? ⟨w.heap.size, 4, none⟩ = some (.slice (some ⟨gk, ok, none⟩) N kc) ∧ w'.cell? ⟨w.heap.size + 1, 4, none⟩ = some (.slice ko2 N2 kc2)) ∧ w'.cell? ⟨gk, ok + i, none⟩ = some (.string sk)) (by kernel_rfl) hx0 (fun hHeld => ?_)
      clear hHeld c4 d4 s1 cgk q0 J1 J2 Jb hoa
      generalize wr.drew = v0 at *
      (refine' wpAnyH_take (i := 0) rfl (by kernel_rfl) (by kernel_rfl) (by kernel_rfl) (fun _ _ _ h => h) (Or.inl ⟨by rfl, ?_⟩) (by assumption) ?_; rotate_left; (· (intro wq hq; (try dsimp only at hq); go_simp; first | done | with_reducible rfl)); simp only [Act.put, List.getElem_toArray, List.getElem_cons_zero, List.setIfInBounds_toArray, List.set_cons_zero, List.set_cons_succ])
      (refine' wpAnyH_take (i := 1) rfl (by kernel_rfl) (by kernel_rfl) (by kernel_rfl) (fun _ _ _ h => h) (Or.inl ⟨by rfl, ?_⟩) (by assumption) ?_; rotate_left; (· (intro wq hq; (try dsimp only at hq); go_simp; first | done | with_reducible rfl)); simp only [Act.put, List.getElem_toArray, List.getElem_cons_zero, List.getElem_cons_succ, List.setIfInBounds_toArray, List.set_cons_zero, List.set_cons_succ])
      (refine' wpAnyH_take (i := 2) rfl (by kernel_rfl) (by kernel_rfl) (by kernel_rfl) (fun _ _ _ h => h) (Or.inl ⟨by rfl, ?_⟩) (by assumption) ?_; rotate_left; (· (intro wq hq; (try dsimp only at hq); go_simp; first | done | with_reducible rfl)); simp only [Act.put, List.getElem_toArray, List.getElem_cons_zero, List.getElem_cons_succ, List.setIfInBounds_toArray, List.set_cons_zero, List.set_cons_succ])
      (refine' wpAnyH_take (i := 3) rfl (by kernel_rfl) (by kernel_rfl) (by kernel_rfl) (fun _ _ _ h => h) (Or.inl ⟨by rfl, ?_⟩) (by assumption) ?_; rotate_left; (· (intro wq hq; (try dsimp only at hq); go_simp; first | done | with_reducible rfl)); simp only [Act.put, List.getElem_toArray, List.getElem_cons_zero, List.getElem_cons_succ, List.setIfInBounds_toArray, List.set_cons_zero, List.set_cons_succ])
      (refine' wpAnyH_take (i := 4) rfl (by kernel_rfl) (by kernel_rfl) (by kernel_rfl) (fun _ _ _ h => h) (Or.inl ⟨by rfl, ?_⟩) (by assumption) ?_; rotate_left; (· (intro wq hq; (try dsimp only at hq); go_simp; first | done | with_reducible rfl)); simp only [Act.put, List.getElem_toArray, List.getElem_cons_zero, List.getElem_cons_succ, List.setIfInBounds_toArray, List.set_cons_zero, List.set_cons_succ])
      (refine' wpAnyH_take (i := 5) rfl (by kernel_rfl) (by kernel_rfl) (by kernel_rfl) (fun _ _ _ h => h) (Or.inl ⟨by rfl, ?_⟩) (by assumption) ?_; rotate_left; (· (intro wq hq; (try dsimp only at hq); go_simp; first | done | with_reducible rfl)); simp only [Act.put, List.getElem_toArray, List.getElem_cons_zero, List.getElem_cons_succ, List.setIfInBounds_toArray, List.set_cons_zero, List.set_cons_succ])
      (refine' wpAnyH_take (i := 6) rfl (by kernel_rfl) (by kernel_rfl) (by kernel_rfl) (fun _ _ _ h => h) (Or.inl ⟨by rfl, ?_⟩) (by assumption) ?_; rotate_left; (· (intro wq hq; (try dsimp only at hq); go_simp; first | done | with_reducible rfl)); simp only [Act.put, List.getElem_toArray, List.getElem_cons_zero, List.getElem_cons_succ, List.setIfInBounds_toArray, List.set_cons_zero, List.set_cons_succ])
      (refine' wpAnyH_take (i := 7) rfl (by kernel_rfl) (by kernel_rfl) (by kernel_rfl) (fun _ _ _ h => h) (Or.inl ⟨by rfl, ?_⟩) (by assumption) ?_; rotate_left; (· (intro wq hq; (try dsimp only at hq); go_simp; first | done | with_reducible rfl)); simp only [Act.put, List.getElem_toArray, List.getElem_cons_zero, List.getElem_cons_succ, List.setIfInBounds_toArray, List.set_cons_zero, List.set_cons_succ])
      refine wpAnyH_ready (rs := [8]) (by kernel_rfl) (by simp) ?_
      refine AllReadyH.cons rfl (fun K hK => ?_) ?_
      · rw [if_pos (by rfl)]
        go_simp
        refine Calls.mono hcall.out ?_
        rintro e v2 ⟨rfl, hv2⟩
        rw [hv2]
        clear hv2
        refine hK.out _ _ hx0 (fun _ => ?_)
        clear hK K hcall hx0
        (refine' wpAnyH_take (i := 9) rfl (by kernel_rfl) (by kernel_rfl) (by kernel_rfl) (fun _ _ _ h => h) (Or.inl ⟨by rfl, ?_⟩) (by assumption) ?_; rotate_left; (· (intro wq hq; (try dsimp only at hq); go_simp; first | done | with_reducible rfl)); simp only [Act.put, List.getElem_toArray, List.getElem_cons_zero, List.getElem_cons_succ, List.setIfInBounds_toArray, List.set_cons_zero, List.set_cons_succ])
        refine wpAnyH_done (by kernel_rfl) ?_ _
        obtain ⟨fl1, fl2⟩ := fst_lo hf.out
        by_cases hneg : f < 0
        · have e1 : decide (f < 0) = true := by simp [hneg]
          have hfin : Hid (B = false) := by
            show _ = _
            cases hBB : B with
            | false => rfl
            | true =>
              exfalso
              obtain ⟨j, hj⟩ := hB'.out.1 hBB i sk hsk.out
              exact (fst_neg hf.out).1 hneg j hj
          go_wp2
          go_ret
          exact ⟨by rw [hfin.out]; rfl, Kb.out⟩
        · have e1 : decide (f < 0) = false := by simp; omega
          have hnx : Hid (∀ (j : Nat) (k : ByteArray), j < i + 1 → ks[j]? = some k → ∃ q : Nat, ks2[q]? = some k) := fun j k hj hk => by
            by_cases e : j = i
            · subst e
              rw [hsk.out] at hk
              injection hk with hk
              subst hk
              rcases hf.out with ⟨h, -⟩ | ⟨q, -, h, -⟩
              · omega
              · exact ⟨q, h⟩
            · exact hI.out j k (by omega) hk
          clear hI
          go_wp2
          go_roundw
          case rel => exact ⟨i + 1, by omega, by simp, hnx, K1, K2, Ko, Kb⟩
          case measure => simp [intOf]; omega
      exact AllReadyH.nil
    · have hge : (N : Int) ≤ (i : Int) := by omega
      have hfin : Hid (B = true) := hB'.out.2 (fun j k hj => hI.out j k (by have := (List.getElem?_eq_some_iff.mp hj).1; rw [hN.out] at this; omega) hj)
      clear hI
      go_wp2
      go_ret
      exact ⟨by rw [hfin.out]; rfl, Jb.out⟩
end Go.Proofs.YthfbmelfflpenaaDoor
