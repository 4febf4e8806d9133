/-
  What words.Escaped answers.
-/
import Derived.Test.YtmjmcdoanolelaaDoorRunsSeq
import Derived.Test.YtmjmcdoanolelaaDoorWordsA
namespace Go.Proofs.YtmjmcdoanolelaaDoor
open Go.RowKit Go.Shelf

attribute [local go_sem] Oper.semAt_some

/-- The frame in which a round's body begins. -/
def escFrame (x e0 y b : Nat) (c : Bool) (q r : Nat) : Act :=
  { tmps := #[.int .u64 (x : Int), .bool c, undef, undef, .int .u64 0, .bool false, .pointer (some ⟨b, 0, none⟩), .int .i64 (q : Int), .int .i64 (r : Int), undef, .bool c, .int .u64 (e0 : Int), .int .u64 (x : Int), .int .u64 (e0 : Int), .int .u64 (y : Int),
      .func (.func 66) #[] #[.pointer (some ⟨b + 1, 0, none⟩)], .int .i64 (q : Int), .int .i64 (r : Int), undef, undef, undef, undef, undef, undef, undef, undef, undef, undef, undef, undef, undef, undef, undef, undef], defers := [] }

theorem row_eq (q r1 V : Nat) (hV : V = (12297829382473034410 &&& (2 ^ min r1 64 - 1)) * 2 ^ q % 18446744073709551616) :
    IntKind.u64.wrap (bits BinOp.and IntKind.u64 12297829382473034410 (IntKind.u64.wrap (IntKind.u64.wrap ((2 : Int) ^ min r1 64) - 1)) * 2 ^ q) = (V : Int) := by
  obtain ⟨m, hm, hm64⟩ : ∃ m, min r1 64 = m ∧ m ≤ 64 := ⟨_, rfl, Nat.min_le_right _ _⟩
  rw [hm] at hV ⊢
  have hp : (2 : Nat) ^ m ≤ 18446744073709551616 := Nat.pow_le_pow_right (n := 2) (j := 64) (by decide) hm64
  have hp0 : 0 < (2 : Nat) ^ m := Nat.pow_pos (by decide)
  have e : ((2 : Int) ^ m) = ((2 ^ m : Nat) : Int) := by simp
  have e1 : IntKind.u64.wrap (IntKind.u64.wrap ((2 : Int) ^ m) - 1) = ((2 ^ m - 1 : Nat) : Int) := by
    rw [e, IntKind.wrap_u64, IntKind.wrap_u64]
    by_cases h : 2 ^ m = 18446744073709551616
    · rw [h]; rfl
    · omega
  have b : bits BinOp.and IntKind.u64 12297829382473034410 ((2 ^ m - 1 : Nat) : Int) = ((12297829382473034410 &&& (2 ^ m - 1) : Nat) : Int) := bits_and_u64_nat 12297829382473034410 (2 ^ m - 1) (by decide) (by omega)
  rw [e1, b, hV, IntKind.wrap_u64]
  simp

set_option maxRecDepth 100000 in
set_option maxHeartbeats 1000000 in
theorem escaped_in (x S : Nat) (c C : Bool) (hx : x < 18446744073709551616) (hS : Hid (escW x c = S ∧ escC x c 64 = C)) (w : World) (hT : Tab w) (h0 : 0 < w.heap.size) :
    CallsIn Fence.wide 3 Tryd.prog 39 #[.int .u64 (x : Int), .bool c] w fun e w' => e = .returned (.tuple #[.int .u64 (S : Int), .bool C]) ∧ Below w.heap.size w w' := by
  obtain ⟨e0, he0⟩ : ∃ e0, c.toNat = e0 := ⟨_, rfl⟩
  have hone : ∀ w, Calls Tryd.prog 58 #[.bool c] w fun e w' => e = .returned (.int .u64 (e0 : Int)) ∧ w' = w := by
    intro w
    subst he0
    cases c <;> (go_enter Tryd.func58, Tryd.ntmps58; go_wp2; go_ret; exact ⟨rfl, rfl⟩)
  have hel : e0 < 18446744073709551616 := by rw [← he0]; cases c <;> decide
  obtain ⟨y, hyd⟩ : ∃ y, andn x e0 = y := ⟨_, rfl⟩
  have hy : y < 18446744073709551616 := hyd ▸ andn_lt hx
  have e1 : bits BinOp.andNot IntKind.u64 (x : Int) (e0 : Int) = (y : Int) := by rw [bits_andn x e0 hx hel, hyd]
  have hfin : Hid (rowsW y e0 (starts y) = S) := by
    show _ = _
    have := esc_rows x c hx
    rw [he0, hyd] at this
    exact this.trans hS.out.1
  have hout : Hid (andn x S / 9223372036854775808 = C.toNat) := by
    show _ = _
    have := esc_out x c hx
    rw [hS.out.1, hS.out.2] at this
    exact this
  have hSl : S < 18446744073709551616 := hS.out.1 ▸ escW_lt x c
  have hone' : Hid _ := hone
  clear hone he0 hyd hS
  refine callsIn_of_wp_marks Tryd.func39 rfl trivial ?_ rfl
  simp only [Tryd.ntmps39, List.size_toArray, List.length_cons, List.length_nil, Nat.reduceAdd, Nat.reduceSub, Array.replicate_succ, Array.replicate_zero, List.push_toArray, List.append_toArray, List.nil_append, List.cons_append]
  gi_wp2_with fail
  refine ⟨trivial, ?_⟩
  refine (callsIn_wide.2 (hone'.out _)).mono ?_
  rintro e w0 ⟨rfl, rfl⟩
  gi_wp2_with fail
  refine ⟨trivial, ?_⟩
  refine (callsIn_wide.2 (runs_calls y _)).mono ?_
  rintro e w1 ⟨rfl, hw1⟩
  have a0 : At w1 w0.heap.size #[.int .u64 (e0 : Int)] 46 := by rw [hw1]; exact (At.new w0 _ _).alloc _
  have a1 : At w1 (w0.heap.size + 1) #[.int .u64 (y : Int)] 46 := by
    have h := At.new (w0.alloc (.cells #[.int .u64 (e0 : Int)] 46)) #[.int .u64 (y : Int)] 46
    rw [hw1]; simpa using h
  have hB : Below w0.heap.size w0 w1 := by rw [hw1]; repeat (first | with_reducible exact Below.refl _ _ | with_reducible refine Below.setCell ?_ (by first | (simp; done) | (simp; omega)) _ | with_reducible refine below_drewN ?_ _ | with_reducible refine Below.alloc ?_ (by first | (simp; done) | (simp; omega)) _ | with_reducible refine Below.drew ?_)
  have hz : w1.heap.size = w0.heap.size + 1 + 1 := by rw [hw1]; simp
  have hzb : (w0.alloc (.cells #[.int .u64 (e0 : Int)] 46)).heap.size = w0.heap.size + 1 := by simp
  rw [hzb]
  clear hw1 hzb
  have hT1 := hT.below hB h0
  gi_wp2_with fail
  refine range_held (n := 3) (by decide) (gf := 66) (lb := #[.pointer (some ⟨w0.heap.size + 1, 0, none⟩)]) rfl (enters_of Tryd.func66 (by kernel_rfl) rfl)
    (runs_held (3 - 1) (by decide) (w0.heap.size + 1) w0.heap.size (w1.heap.size + 1 + 1) y hy h0 w1 (by omega) (by omega) (Nat.le_refl _) hT1 a1) (Below.refl _ _) (fun _ => rfl) Held.trans (fun W r r' h => Held.turn h (by omega) (by omega) (by omega))
    (fun pre W => At W w0.heap.size #[.int .u64 ((rowsW y e0 pre : Nat) : Int)] 46 ∧ Below w0.heap.size w0 W)
    (fun _ _ _ => False)
    (fun _ X Y row ⟨h1, hb⟩ hg hr => ⟨h1.own hg (fun r e => (hr r e).2), ownFrom_below (β := List Nat) (Nat.le_refl _) (by omega) [] X Y row hb hg hr⟩)
    (fun _ _ _ _ _ hs _ _ => hs)
    ⟨a0, hB⟩
    (fun p => escFrame x e0 y w0.heap.size c (p % 64) (runLen y (p % 64)))
    ?assign ?body ?done ?stop
  case assign =>
    intro l p W K hK
    rw [encR]
    generalize runLen y (p % 64) = r at *
    generalize p % 64 = q at *
    gi_wp2
    exact hK
  case body =>
    intro l pre p W hll ⟨h1, hb⟩ hlt
    have hq : p % 64 < 64 := Nat.mod_lt _ (by decide)
    have hr : runLen y (p % 64) ≤ 64 := by have := (run_spec hy hq).2.2; omega
    have hrow := rowW_lt y p
    have hpl := rowsW_lt y e0 hel pre
    have hsn := rowsW_snoc y e0 pre p
    have hdef : rowW y p = (12297829382473034410 &&& (2 ^ min (runLen y (p % 64) + 1) 64 - 1)) * 2 ^ (p % 64) % 18446744073709551616 := rfl
    obtain ⟨V, hV⟩ : ∃ V, rowW y p = V := ⟨_, rfl⟩
    rw [hV] at hrow hsn hdef
    generalize rowsW y e0 pre = E at *
    generalize runLen y (p % 64) = r at *
    generalize p % 64 = q at *
    have hor := bits_or_u64 E V hpl hrow
    have c1 := h1.cell 0
    have f1 := h1.frozen 0
    simp only [List.getElem?_toArray, List.getElem?_cons_zero] at c1
    have hdef' : Hid _ := hdef
    have hsn' : Hid _ := hsn
    clear hdef hsn hV
    obtain ⟨r1, hr1⟩ : ∃ r1, r + 1 = r1 := ⟨_, rfl⟩
    rw [hr1] at hdef'
    have e4 : (r : Int) + 1 = (r1 : Int) := by omega
    have hr1l : r1 ≤ 65 := by omega
    clear hr1 hr
    unfold escFrame
    have e5 := row_eq q r1 V hdef'.out
    replace e5 : Hid _ := e5
    gi_wp2_with fail
    refine wpIn_region_lift (by kernel_rfl) (by kernel_rfl) ?_
    (refine' wpAnyIn_take (i := 1) rfl rfl (by kernel_rfl) (by kernel_rfl) (by kernel_rfl) (fun _ _ _ h => h) ⟨Or.inl ⟨by rfl, ?_⟩, fun _ => by rfl⟩ ?_; rotate_left; (· (intro wq; go_simp; first | done | with_reducible rfl)); simp only [Act.put, List.getElem_toArray, List.getElem_cons_zero, List.getElem_cons_succ, List.setIfInBounds_toArray, List.set_cons_zero, List.set_cons_succ])
    (refine' wpAnyIn_take (i := 2) rfl rfl (by kernel_rfl) (by kernel_rfl) (by kernel_rfl) (fun _ _ _ h => h) ⟨Or.inl ⟨by rfl, ?_⟩, fun _ => by rfl⟩ ?_; rotate_left; (· (intro wq; go_simp; first | done | with_reducible rfl)); simp only [Act.put, List.getElem_toArray, List.getElem_cons_zero, List.getElem_cons_succ, List.setIfInBounds_toArray, List.set_cons_zero, List.set_cons_succ])
    (refine' wpAnyIn_take (i := 3) rfl rfl (by kernel_rfl) (by kernel_rfl) (by kernel_rfl) (fun _ _ _ h => h) ⟨Or.inl ⟨by rfl, ?_⟩, fun _ => by rfl⟩ ?_; rotate_left; (· (intro wq; go_simp; first | done | with_reducible rfl)); simp only [Act.put, List.getElem_toArray, List.getElem_cons_zero, List.getElem_cons_succ, List.setIfInBounds_toArray, List.set_cons_zero, List.set_cons_succ])
    (refine' wpAnyIn_take (i := 4) rfl rfl (by kernel_rfl) (by kernel_rfl) (by kernel_rfl) (fun _ _ _ h => h) ⟨Or.inl ⟨by rfl, ?_⟩, fun _ => by rfl⟩ ?_; rotate_left; (· (intro wq; go_simp; first | done | with_reducible rfl)); simp only [Act.put, List.getElem_toArray, List.getElem_cons_zero, List.getElem_cons_succ, List.setIfInBounds_toArray, List.set_cons_zero, List.set_cons_succ])
    refine wpAnyIn_ready (rs := [0]) (by kernel_rfl) (by simp) ?_
    refine AllReadyIn.cons rfl (fun K hK => ?_) ?_
    · rw [if_pos (by rfl)]
      unfold Oper.wpIn
      go_simp
      refine hK _ _ ?_
      clear hK K
      rw [e5.out]
      (refine' wpAnyIn_take (i := 5) rfl rfl (by kernel_rfl) (by kernel_rfl) (by kernel_rfl) (fun _ _ _ h => h) ⟨Or.inl ⟨by rfl, ?_⟩, fun _ => by rfl⟩ ?_; rotate_left; (· (intro wq; go_simp; first | done | with_reducible rfl)); simp only [Act.put, List.getElem_toArray, List.getElem_cons_zero, List.getElem_cons_succ, List.setIfInBounds_toArray, List.set_cons_zero, List.set_cons_succ])
      refine wpAnyIn_ready (rs := [6]) (by kernel_rfl) (by simp) ?_
      refine AllReadyIn.cons rfl (fun K hK => ?_) ?_
      · rw [if_pos (by rfl)]
        unfold Oper.wpIn
        go_simp
        refine hK _ _ ?_
        clear hK K
        refine wpAnyIn_done (by kernel_rfl) ?_ _
        refine ⟨((KeepsOthers.drew W).trans (KeepsOthers.setCell _ _ _)).from _, (Held.drew W).trans (Held.setCell (b := w0.heap.size) _ _ (Nat.le_refl _) (by omega) (by omega)), ?_, (hb.drew).setCell (p := ⟨w0.heap.size, 0, none⟩) (Nat.le_refl _) _⟩
        rw [hsn'.out]
        exact h1.drew.set 0 _
      · exact AllReadyIn.nil
    · exact AllReadyIn.nil
  case done =>
    rintro D xs W hD rfl ⟨h1, hb⟩ hK
    rw [hfin.out] at h1
    have c1 := h1.cell 0
    simp only [List.getElem?_toArray, List.getElem?_cons_zero] at c1
    obtain ⟨Z, hZ⟩ : ∃ Z, andn x S = Z := ⟨_, rfl⟩
    have b2 : bits BinOp.andNot IntKind.u64 (x : Int) (S : Int) = (Z : Int) := by rw [bits_andn x S hx hSl, hZ]
    have b3 : ((Z : Int) / 9223372036854775808 == 1) = C := by
      have h := hout.out
      rw [hZ] at h
      have e : ((Z : Int) / 9223372036854775808) = ((Z / 9223372036854775808 : Nat) : Int) := by simp
      rw [e, h]
      cases C <;> rfl
    gi_wp2
    gi_region
    all_goals gi_wp2
    refine ⟨by simp, .inl ⟨_, _, rfl, run_takeDeferred (w := W.drew) hK, ?_⟩⟩
    exact ⟨_, results_tmp2 rfl _ _ _, rfl, hb.drew.trans (belowK_b (w := w0) (Nat.le_refl _) W.drew D _ _ (by omega) hK rfl rfl)⟩
  case stop =>
    rintro D c pre W _ _ h _
    exact h.elim

theorem escaped_calls (x S : Nat) (c C : Bool) (hx : x < 18446744073709551616) (hS : Hid (escW x c = S ∧ escC x c 64 = C)) (w : World) (hT : Tab w) (h0 : 0 < w.heap.size) :
    Calls Tryd.prog 39 #[.int .u64 (x : Int), .bool c] w fun e w' => e = .returned (.tuple #[.int .u64 (S : Int), .bool C]) ∧ Below w.heap.size w w' := callsIn_wide.1 (escaped_in x S c C hx hS w hT h0)
end Go.Proofs.YtmjmcdoanolelaaDoor
