/-
  A list of numbers that a call has made: what is read of it, and what keeps it; what quarryref03.Each and quarryref03.Select answer.
-/
import Derived.Test.YtkoillfkillohaaDoorSelectWalk
import Derived.Test.YtkoillfkillohaaDoorRefRank
namespace Go.Proofs.YtkoillfkillohaaDoor
open Go.RowKit Go.Shelf

/-- The numbers as cells. -/
def ints (L : List Nat) : List Value := L.map fun p => .int .i64 ((p : Nat) : Int)
theorem ints_len (L : List Nat) : (ints L).length = L.length := by simp [ints]
theorem ints_snoc (L : List Nat) (p : Nat) : ints (L ++ [p]) = ints L ++ [.int .i64 ((p : Nat) : Int)] := by simp [ints]

/-- The slice v is of just these numbers; they lie in a block from B on and below G. -/
def Lst (W : World) (v : Value) (B G : Nat) (L : List Nat) : Prop :=
  ∃ (ao : Option Addr) (cap : Nat), v = .slice ao L.length cap ∧ ∀ j p, L[j]? = some p → ∃ g, ao = some ⟨g, 0, none⟩ ∧ B ≤ g ∧ g < G ∧ W.cell? ⟨g, j, none⟩ = some (.int .i64 ((p : Nat) : Int))
theorem Lst.of {W W' : World} {v : Value} {B G : Nat} {L : List Nat} (h : Lst W v B G L) (hh : ∀ g, B ≤ g → g < G → (∃ o, W.heap[g]? = some o ∧ o.isCells = true) → W'.heap[g]? = W.heap[g]?) : Lst W' v B G L := by
  obtain ⟨ao, cap, hv, hc⟩ := h
  refine ⟨ao, cap, hv, fun j p hj => ?_⟩
  obtain ⟨g, h1, h2, h3, h4⟩ := hc j p hj
  have hcell : ∃ o, W.heap[g]? = some o ∧ o.isCells = true := by
    unfold World.cell? at h4
    cases ho : W.heap[g]? with
    | none => simp [ho] at h4
    | some o => exact ⟨o, rfl, by cases o <;> simp_all [Obj.isCells]⟩
  refine ⟨g, h1, h2, h3, ?_⟩
  rw [← h4]
  simp only [World.cell?, hh g h2 h3 hcell]
theorem Lst.kept {W W' : World} {v : Value} {B G n : Nat} {L : List Nat} (h : Lst W v B G L) (hb : Below n W W') (hn : G ≤ n) : Lst W' v B G L := h.of fun g _ hg _ => hb.block g (by omega)
theorem Lst.other {W : World} {v : Value} {B G : Nat} {L : List Nat} (h : Lst W v B G L) {b : Nat} (hb : b < B ∨ G ≤ b) (u : Value) : Lst (W.setCell ⟨b, 0, none⟩ u) v B G L :=
  h.of fun g h1 h2 _ => Below.heap_setCell W ⟨b, 0, none⟩ u g (by show g ≠ b; omega)
theorem Lst.own {W W' : World} {v : Value} {B G : Nat} {L : List Nat} (h : Lst W v B G L) (hG : G ≤ W.heap.size) {row : Option Nat} (hg : W.grownBy W' row) (hr : ∀ r, row = some r → ∃ o : Obj, W.heap[r]? = some o ∧ o.isCells = false) : Lst W' v B G L :=
  h.of fun g _ h2 ⟨o, ho, hc⟩ => hg.block g (by omega) (fun e => by
    obtain ⟨o', ho', hc'⟩ := hr g e.symm
    rw [ho] at ho'; cases ho'; rw [hc] at hc'; cases hc')
theorem Lst.wide {W : World} {v : Value} {B G B' G' : Nat} {L : List Nat} (h : Lst W v B G L) (hB : B' ≤ B) (hG : G ≤ G') : Lst W v B' G' L := by
  obtain ⟨ao, cap, hv, hc⟩ := h
  refine ⟨ao, cap, hv, fun j p hj => ?_⟩
  obtain ⟨g, h1, h2, h3, h4⟩ := hc j p hj
  exact ⟨g, h1, by omega, by omega, h4⟩
theorem lst_of_row {W : World} {v : Value} {B : Nat} {L : List Nat} (h : W.ownsRow B 3 1 v L.length (ints L)) : Lst W v B W.heap.size L := by
  have hlt := h.lt
  rcases h.2 with ⟨rfl, h0⟩ | ⟨g, cap, cur, rfl, hb, hgb, h3⟩
  · refine ⟨none, 0, by rw [h0], fun j p hj => ?_⟩
    rw [List.length_eq_zero_iff.1 h0] at hj
    simp at hj
  · refine ⟨_, cap, rfl, fun j p hj => ⟨g, rfl, hb, (hlt g rfl).2, ?_⟩⟩
    have := h.cells (g := g) rfl j (.int .i64 ((p : Nat) : Int)) (by simp [ints, hj])
    rwa [show (⟨g, 0, none⟩ : Addr).add j = ⟨g, j, none⟩ by by_cases h : j = 0 <;> simp [Addr.add, h]] at this
theorem infoInt : (Tryd.prog.info? 3).map (fun i => (i.zero, i.size, i.bytes)) = some (some (.int .i64 0), 1, 8) := by kernel_rfl

set_option maxRecDepth 100000 in
set_option maxHeartbeats 4000000 in
theorem refEach_calls (x : Nat) (hx : x < 18446744073709551616) (w : World) :
    Calls Tryd.prog 13 #[.int .u64 (x : Int)] w fun e w' => ∃ v, e = .returned v ∧ w'.ownsRow w.heap.size 3 1 v (places x).length (ints (places x)) ∧ Below w.heap.size w w' := by
  obtain ⟨i0, hi, hz0, hz1, hz2⟩ := info_parts infoInt
  go_enter Tryd.func13, Tryd.ntmps13
  go_wp2
  go_loopw [3, 4] (fun v i wr => ∃ (n C : Nat) (L : List Nat), Hid (L = below x n) ∧ Hid (L.length = C) ∧ C ≤ n ∧ n ≤ 64 ∧ i = .int .i64 (n : Int) ∧ wr.ownsRow w.heap.size 3 1 v C (ints L) ∧ Below w.heap.size w wr) (fun _ i _ => 64 - (intOf i).toNat)
  case atStart => exact ⟨0, 0, [], rfl, rfl, Nat.le_refl _, by decide, rfl, World.ownsRow_nil _ _ _ _, Below.refl _ _⟩
  case round =>
    obtain ⟨n, C, L, hL, hC, hCn, hn, rfl, hown, hb⟩ := hrel
    have hsz := hb.size
    by_cases hlt : n < 64
    · go_wp2_with fail
      refine (has_calls x n hx hlt _).mono ?_
      rintro e w' ⟨rfl, rfl⟩
      cases hbit : x.testBit n
      · go_wp2
        go_roundw
        case rel => exact ⟨n + 1, C, L, hL.out.trans (below_f hbit).symm, hC, by omega, by omega, by simp, hown, hb⟩
        case measure => simp [intOf]; omega
      · go_wp2_with (first
          | (at_builtin; refine wpList_append_own _ rfl _ _ 28 rfl w.heap.size 3 i0 (.int .i64 0) 1 8 Tryd.underlying28 hi hz0 hz1 hz2 rfl (by decide) _ _ _ rfl (hown.alloc _) ⟨w'.heap.size, 0, none⟩ 1 1 [.int .i64 (n : Int)] rfl rfl ?c1 ?c2 ?c3 ?c4 ?c5 ?_)
          | go_in)
        case c1 =>
          intro j u hj
          match j, hj with
          | 0, hj => simp at hj; subst hj; simp [Addr.add]
        case c2 => intro u hu; simp at hu; subst hu; rfl
        case c3 => unfold maxLen; omega
        case c4 => omega
        case c5 => simp; omega
        · intro v' w1 hown' hgrow _
          have hL' : Hid (L ++ [n] = below x (n + 1)) := by show _ = _; rw [below_t hbit, hL.out]
          have hC' : Hid ((L ++ [n]).length = C + 1) := by show _ = _; rw [List.length_append, hC.out]; rfl
          have hb' : Below w.heap.size w w1 := (hb.alloc hsz _).grown hgrow (by simp; omega) (fun k e => (hown.lt k e).1)
          rw [← ints_snoc] at hown'
          clear hgrow hown
          go_wp2
          go_roundw
          case rel => exact ⟨n + 1, C + 1, L ++ [n], hL', hC', by omega, by omega, by simp, hown', hb'⟩
          case measure => simp [intOf]; omega
    · obtain rfl : n = 64 := by omega
      go_wp2
      go_ret
      refine ⟨_, rfl, ?_, hb⟩
      have e : L = places x := hL.out
      rw [← e, hC.out]
      exact hown

set_option maxRecDepth 100000 in
set_option maxHeartbeats 1000000 in
theorem refSelect_calls (x : Nat) (k S : Int) (hx : x < 18446744073709551616) (hS : Hid (selW x k = S)) (w : World) :
    Calls Tryd.prog 10 #[.int .u64 (x : Int), .int .i64 k] w fun e w' => e = .returned (.int .i64 S) ∧ Below w.heap.size w w' := by
  go_enter Tryd.func10, Tryd.ntmps10
  go_wp2_with fail
  refine (refEach_calls x hx _).mono ?_
  rintro e w1 ⟨v, rfl, hrow, hb⟩
  obtain ⟨ao, cap, rfl, hc⟩ := lst_of_row hrow
  clear hrow
  have hs : Hid _ := hS.out
  clear hS
  obtain ⟨N, hN⟩ : ∃ N, (places x).length = N := ⟨_, rfl⟩
  by_cases h1 : k < 0
  · have e : S = -1 := by rw [← hs.out]; exact selW_none (.inl h1)
    subst e
    clear hs hc
    go_wp2
    go_ret
    exact ⟨rfl, hb⟩
  · obtain ⟨K, rfl⟩ := Int.eq_ofNat_of_zero_le (show 0 ≤ k by omega)
    by_cases h2 : K < N
    · have hK : (places x)[K]? = some ((places x)[K]'(by omega)) := List.getElem?_eq_getElem _
      obtain ⟨g, rfl, -, -, hcell⟩ := hc K _ hK
      have e : S = (((places x)[K]'(by omega) : Nat) : Int) := by
        rw [← hs.out, selW, if_pos (by omega), Int.toNat_natCast, hK]
      rw [← e] at hcell
      rw [hN]
      clear hs hc hK e hN
      go_wp2
      go_ret
      exact ⟨rfl, hb⟩
    · have e : S = -1 := by rw [← hs.out]; exact selW_none (.inr (by omega))
      subst e
      rw [hN]
      clear hs hc hN
      go_wp2
      go_ret
      exact ⟨rfl, hb⟩
end Go.Proofs.YtkoillfkillohaaDoor
