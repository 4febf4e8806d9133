/-
  RankWalk, EachSeq, RunsSeq, EscapedWalk, SelectWalk.
-/
import Derived.Test.YtlckhiflhnlgpaaGreatDoorWordsA
import Derived.Shelf.Spec.TrailingZeros
import Derived.Test.YtlckhiflhnlgpaaGreatDoorKitA
/-
  What math/bits.OnesCount64, math/bits.TrailingZeros64, words.Rank come to.
-/
namespace Go.Proofs.YtlckhiflhnlgpaaGreatDoor
open Go.RowKit

/-- The table of math/bits lies in its variable. -/
abbrev Tab (w : World) : Prop := TabAt 0 Lib.deBruijn64tab w
theorem Tab.below {n₀ : Nat} {w w' : World} (h : Tab w) (hb : Below n₀ w w') (h0 : 0 < n₀) : Tab w' := fun j hj => (hb.cell (p := ⟨0, j, none⟩) h0).trans (h j hj)

set_option maxHeartbeats 1000000 in
theorem tz_core (x k idx : Nat) (w : World) (hx0 : ((x : Int) == 0) = false)
    (key : IntKind.u64.wrap (bits BinOp.and IntKind.u64 (x : Int) (IntKind.u64.wrap (-(x : Int))) * 285870213051353865) / 288230376151711744 = (idx : Int))
    (hi : idx < 64) (hk : k < 64) (hcell : w.cell? ⟨0, idx, none⟩ = some (.int .u8 k)) :
    Calls Tryz.prog 61 #[.int .u64 x] w fun e w' => e = .returned (.int .i64 k) ∧ w' = w := by
  go_enter Tryz.func61, Tryz.ntmps61
  go_wp2_with (simp only [key])
  go_ret
  exact ⟨rfl, rfl⟩
theorem tz_zero (w : World) : Calls Tryz.prog 61 #[.int .u64 0] w fun e w' => e = .returned (.int .i64 64) ∧ w' = w := by
  go_enter Tryz.func61, Tryz.ntmps61
  go_wp2
  go_ret
  exact ⟨rfl, rfl⟩
theorem tz_calls (x K : Nat) (hx : x < 18446744073709551616) (hK : Hid (Lib.ctz 64 x = K)) (w : World) (hT : Tab w) :
    Calls Tryz.prog 61 #[.int .u64 (x : Int)] w fun e w' => e = .returned (.int .i64 (K : Int)) ∧ w' = w := by
  rw [← hK.out]
  by_cases hx0 : x = 0
  · subst hx0
    exact tz_zero w
  · obtain ⟨hlow, hk⟩ := Lib.lowest_bit 64 x hx0 hx
    obtain ⟨hi, htab⟩ := Lib.deBruijn64_at _ hk
    have hcell := hT _ hi
    rw [htab] at hcell
    exact tz_core x _ _ w (by simp; omega) (tz64_key x _ hx hx0 hlow) hi hk hcell

end Go.Proofs.YtlckhiflhnlgpaaGreatDoor

/-
  What words.Each tells: the places of the set bits, one behind the other.
-/
namespace Go.Proofs.YtlckhiflhnlgpaaGreatDoor
open Go.RowKit Go.Shelf

attribute [local go_sem] Oper.semAt_some

/-- What is told of a place. -/
def encE (p : Nat) : Array Value := #[.int .i64 ((p % 64 : Nat) : Int)]

set_option maxRecDepth 100000 in
set_option maxHeartbeats 4000000 in
theorem each1_in (n : Nat) (l Bx n0 x : Nat) (hx : x < 18446744073709551616) (h0 : 0 < n0) (J Jx : List Nat → World → Prop) (W : World)
    (hY : ∀ pre p W1, J pre W1 → pre.length < (places x).length → YieldAt Fence.wide (n - 1) Tryz.prog l (encE p) W1 fun e W' =>
      (e = .returned (.bool true) ∧ J (pre ++ [p]) W' ∧ Below n0 W1 W') ∨ (e = .returned (.bool false) ∧ Jx (pre ++ [p]) W'))
    (hT : Tab W) (cx : W.cell? ⟨Bx, 0, none⟩ = some (.int .u64 (x : Int))) (hJ0 : J [] W) :
    CallsIn Fence.wide n Tryz.prog 60 #[.func (.yield l) #[] #[], .pointer (some ⟨Bx, 0, none⟩)] W fun e W' => (∃ v, e = .returned v) ∧
      ((∃ xs, xs = places x ∧ J xs W') ∨ (∃ pre, pre <+: places x ∧ Jx pre W')) := by
  refine callsIn_of_wp Tryz.func60 rfl trivial ?_ rfl
  simp only [Tryz.ntmps60, List.size_toArray, List.length_cons, List.length_nil, Nat.reduceAdd, Nat.reduceSub, Array.replicate_succ, Array.replicate_zero, List.push_toArray, List.append_toArray, List.nil_append, List.cons_append]
  gi_wp2
  gi_loopw [3] (fun r wr => ∃ (R : Nat) (pre : List Nat), Hid (places x = pre ++ places R) ∧ R < 18446744073709551616 ∧ r = .int .u64 (R : Int) ∧ J pre wr ∧ Tab wr) (fun r _ => (places (intOf r).toNat).length)
  case atStart => exact ⟨x, [], rfl, hx, rfl, hJ0, hT⟩
  case round =>
    obtain ⟨R, pre, hR, hRl, rfl, hJr, hTr⟩ := hrel
    by_cases hz : R = 0
    · subst hz
      have hpx : Hid (places x = pre) := hR.out.trans (by rw [places_zero, List.append_nil])
      clear hR
      gi_wp2
      go_end0
      exact ⟨⟨_, rfl⟩, .inl ⟨pre, hpx.out.symm, hJr⟩⟩
    · have hst := places_step hz hRl
      obtain ⟨R', hR'⟩ : ∃ R', R &&& (R - 1) = R' := ⟨_, rfl⟩
      obtain ⟨K, hK⟩ : ∃ K, Hid (Lib.ctz 64 R = K) := ⟨_, rfl⟩
      have hKl : K < 64 := hK.out ▸ ctz_lt hz hRl
      rw [hR', hK.out] at hst
      have hRl' : R' < 18446744073709551616 := hR' ▸ Nat.lt_of_le_of_lt Nat.and_le_left hRl
      have e1 : bits BinOp.and IntKind.u64 (R : Int) (IntKind.u64.wrap ((R : Int) - 1)) = (R' : Int) := by
        rw [show IntKind.u64.wrap ((R : Int) - 1) = ((R - 1 : Nat) : Int) by rw [IntKind.wrap_u64]; omega, bits_and_u64_nat _ _ hRl (by omega), hR']
      have e2 : bits BinOp.and IntKind.u64 (R : Int) ((R : Int) - 1) = (R' : Int) := by
        rw [show ((R : Int) - 1) = ((R - 1 : Nat) : Int) by omega, bits_and_u64_nat _ _ hRl (by omega), hR']
      have hz' : ((R : Int) != 0) = true := by simp; omega
      have hpl : pre.length < (places x).length := by rw [hR.out, hst]; simp
      have hst' : Hid (places R = K :: places R') := hst
      obtain ⟨fn, tmps, assign, body, hy, hRd⟩ := hY pre K wr hJr hpl
      rw [show encE K = #[.int .i64 (K : Int)] by rw [encE, Nat.mod_eq_of_lt hKl]] at hy
      clear hst hR' hY hpl
      gi_wp2_with fail
      refine ⟨trivial, (fun h => by cases h), ?_⟩
      refine (callsIn_wide.2 (tz_calls R K hRl hK _ hTr)).mono ?_
      rintro e w1 ⟨rfl, rfl⟩
      gi_wp2
      refine ⟨(fun h => by cases h), ?_⟩
      refine hRd.mono ?_
      rintro e W3 (⟨rfl, hJ3, hk3⟩ | ⟨rfl, hJx3⟩)
      · have hT3 := hTr.below hk3 h0
        clear hy hRd
        gi_wp2
        go_roundw
        case rel => exact ⟨R', pre ++ [K], by show _ = _; rw [hR.out, hst'.out]; simp, hRl', rfl, hJ3, hT3⟩
        case measure => simp [intOf, hst'.out]
      · clear hy hRd
        gi_wp2
        refine bodyPost_ret (results_none rfl _ _ _) rfl ?_
        exact ⟨⟨_, rfl⟩, .inr ⟨_, ⟨places R', by rw [hR.out, hst'.out]; simp⟩, hJx3⟩⟩

theorem each_stops (n : Nat) (Bx n0 x : Nat) (hx : x < 18446744073709551616) (h0 : 0 < n0) (w : World) (hBx : Bx < w.heap.size) (hw0 : 0 < w.heap.size) (hT : Tab w) (cx : w.cell? ⟨Bx, 0, none⟩ = some (.int .u64 (x : Int))) :
    SeqStopsK Fence.wide n Tryz.prog 60 #[.pointer (some ⟨Bx, 0, none⟩)] encE (Below n0) (fun xs => xs = places x) (fun pre => pre <+: places x) (places x).length w :=
  fun l J Jx W hW _ _ hY hJ0 => each1_in n l Bx n0 x hx h0 J Jx W hY (hT.below hW hw0) ((hW.cell (p := ⟨Bx, 0, none⟩) hBx).trans cx) hJ0

theorem each_calls (x : Nat) (w : World) :
    Calls Tryz.prog 38 #[.int .u64 (x : Int)] w fun e w' => e = .returned (.func (.func 60) #[] #[.pointer (some ⟨w.heap.size, 0, none⟩)]) ∧ w' = w.alloc (.cells #[.int .u64 (x : Int)] 49) := by
  have hmf : ∀ (fn : Fn) (first cap : Array Value) (w : World), (Instr.makeFunc fn first cap).run Tryz.prog w = .ok (.func fn first cap) w := fun _ _ _ _ => rfl
  go_enter Tryz.func38, Tryz.ntmps38
  go_wp2
  go_ret
  exact ⟨rfl, rfl⟩
end Go.Proofs.YtlckhiflhnlgpaaGreatDoor

/-
  What words.Runs tells: the rows of set bits, one behind the other. It ranges over words.Each and calls its yield in those rounds.
-/
namespace Go.Proofs.YtlckhiflhnlgpaaGreatDoor
open Go.RowKit Go.Shelf

attribute [local go_sem] Oper.semAt_some

/-- What is told of a row that begins at p. -/
def encR (x p : Nat) : Array Value := #[.int .i64 ((p % 64 : Nat) : Int), .int .i64 ((runLen x (p % 64) : Nat) : Int)]

theorem comp_eq {x q : Nat} (h : x / 2 ^ q < 18446744073709551616) : bits BinOp.xor IntKind.u64 (if IntKind.u64.signed = true then -1 else IntKind.u64.max) ((x : Int) / 2 ^ q) = ((comp (x / 2 ^ q) : Nat) : Int) := by
  have e : ((x : Int) / 2 ^ q) = ((x / 2 ^ q : Nat) : Int) := by simp
  rw [e, show (if IntKind.u64.signed = true then (-1 : Int) else IntKind.u64.max) = ((18446744073709551615 : Nat) : Int) by decide]
  exact bits_xor_u64 18446744073709551615 (x / 2 ^ q) (by decide) h

set_option maxRecDepth 100000 in
set_option maxHeartbeats 1000000 in
theorem runs1_in (n : Nat) (hn : 1 ≤ n) (l Bx n0 B x : Nat) (hx : x < 18446744073709551616) (h0 : 0 < n0) (J Jx : List Nat → World → Prop) (W : World) (hn0 : n0 ≤ W.heap.size) (hB : B ≤ W.heap.size)
    (hJ : OwnFrom W.heap.size J) (hJx : OwnFrom W.heap.size Jx)
    (hY : ∀ pre p W1, J pre W1 → pre.length < (starts x).length → YieldAt Fence.wide (n - 1) Tryz.prog l (encR x p) W1 fun e W' =>
      (e = .returned (.bool true) ∧ J (pre ++ [p]) W' ∧ Held n0 B Bx W1 W') ∨ (e = .returned (.bool false) ∧ Jx (pre ++ [p]) W' ∧ Held n0 B Bx W1 W'))
    (hT : Tab W) (ax : At W Bx #[.int .u64 (x : Int)] 49) (hJ0 : J [] W) :
    CallsIn Fence.wide n Tryz.prog 139 #[.func (.yield l) #[] #[], .pointer (some ⟨Bx, 0, none⟩)] W fun e W' => (∃ v, e = .returned v) ∧
      ((∃ xs, xs = starts x ∧ J xs W') ∨ (∃ pre, pre <+: starts x ∧ Jx pre W')) := by
  have hf := firstsW_lt hx
  have cx := (ax.alloc (.cells #[.func (.yield l) #[] #[]] 48)).cell 0
  simp only [List.getElem?_toArray, List.getElem?_cons_zero] at cx
  have e1 : IntKind.u64.wrap ((x : Int) * 2) = ((x * 2 % 18446744073709551616 : Nat) : Int) := by rw [IntKind.wrap_u64]; omega
  have e2 : bits BinOp.andNot IntKind.u64 (x : Int) ((x * 2 % 18446744073709551616 : Nat) : Int) = ((firstsW x : Nat) : Int) := bits_andn x _ hx (Nat.mod_lt _ (by decide))
  obtain ⟨Y, hYd⟩ : ∃ Y, x * 2 % 18446744073709551616 = Y := ⟨_, rfl⟩
  rw [hYd] at e1 e2
  obtain ⟨Fs, hFs⟩ : ∃ Fs, firstsW x = Fs := ⟨_, rfl⟩
  have hst : Hid (starts x = places Fs) := by show _ = _; rw [starts, hFs]
  rw [hFs] at e2 hf
  clear hYd hFs
  refine callsIn_of_wp_marks Tryz.func139 rfl trivial ?_ rfl
  simp only [Tryz.ntmps139, List.size_toArray, List.length_cons, List.length_nil, Nat.reduceAdd, Nat.reduceSub, Array.replicate_succ, Array.replicate_zero, List.push_toArray, List.append_toArray, List.nil_append, List.cons_append]
  gi_wp2_with fail
  refine ⟨trivial, ?_⟩
  refine (callsIn_wide.2 (each_calls Fs _)).mono ?_
  rintro e w1 ⟨rfl, hw1⟩
  have a0 : At w1 W.heap.size #[.func (.yield l) #[] #[]] 48 := by rw [hw1]; exact (At.new W _ _).alloc _
  have a1 : At w1 (W.heap.size + 1) #[.int .u64 (Fs : Int)] 49 := by
    have h := At.new (W.alloc (.cells #[.func (.yield l) #[] #[]] 48)) #[.int .u64 (Fs : Int)] 49
    rw [hw1]; simpa using h
  have axw : At w1 Bx #[.int .u64 (x : Int)] 49 := by rw [hw1]; exact (ax.alloc _).alloc _
  have hbW : Below W.heap.size W w1 := by rw [hw1]; repeat (first | with_reducible exact Below.refl _ _ | with_reducible refine Below.setCell ?_ (by first | (simp; done) | (simp; omega)) _ | with_reducible refine below_drewN ?_ _ | with_reducible refine Below.alloc ?_ (by first | (simp; done) | (simp; omega)) _ | with_reducible refine Below.drew ?_)
  have hz : w1.heap.size = W.heap.size + 1 + 1 := by rw [hw1]; simp
  have hJ1 : J [] w1 := by rw [hw1]; exact hJ.alloc _ (hJ.alloc _ hJ0)
  clear hw1
  have hT1 := hT.below hbW (by omega)
  gi_wp2_with fail
  refine wpIn_rangeFunc_ownH rfl (n := n) hn (gf := 60) (lb := #[.pointer (some ⟨W.heap.size + 1, 0, none⟩)]) rfl trivial (enters_of Tryz.func60 (by kernel_rfl) rfl)
    (each_stops (n - 1) (W.heap.size + 1) n0 Fs hf h0 w1 a1.lt (by omega) hT1 (a1.cell 0)) belowK_t (belowK_b (by omega)) (Below.refl _ _) (fun _ => rfl)
    (fun pre Wi => J pre Wi ∧ At Wi W.heap.size #[.func (.yield l) #[] #[]] 48 ∧ At Wi Bx #[.int .u64 (x : Int)] 49 ∧ Tab Wi ∧ w1.heap.size ≤ Wi.heap.size)
    (fun c pre Wi => c = .ret ∧ Jx pre Wi)
    (fun s X Y row ⟨h1, h2, h3, h4, h5⟩ hg hr => ⟨hJ s X Y row h1 hg (fun r e => ⟨by have := (hr r e).1; omega, (hr r e).2⟩), h2.own hg (fun r e => (hr r e).2), h3.own hg (fun r e => (hr r e).2),
      fun j hj => (World.cell?_of_block (w := X) (hg.block 0 (by omega) (fun e => by have := (hr 0 e.symm).1; omega))).trans (h4 j hj), Nat.le_trans h5 hg.size⟩)
    (fun c s X Y row ⟨h1, h2⟩ hg hr => ⟨h1, hJx s X Y row h2 hg (fun r e => ⟨by have := (hr r e).1; omega, (hr r e).2⟩)⟩)
    ⟨hJ1, a0, axw, hT1, Nat.le_refl _⟩
    (fun p a' _ => ∃ q : Nat, Hid (q = p % 64) ∧ a' = { tmps := #[.func (.yield l) #[] #[], .pointer (some ⟨Bx, 0, none⟩), .pointer (some ⟨W.heap.size, 0, none⟩), .int .u64 (Fs : Int), .int .i64 (q : Int), .int .u64 (x : Int), .int .u64 (x : Int), .int .u64 (Y : Int), .int .u64 (Fs : Int), .int .u64 (Fs : Int), .func (.func 60) #[] #[.pointer (some ⟨W.heap.size + 1, 0, none⟩)], .int .i64 (q : Int), undef, undef, undef, undef, undef, undef, undef, undef, undef], defers := [] })
    (fun _ _ _ _ _ _ hs _ _ => hs) ?assign ?body ?done ?stop
  case assign =>
    intro l2 pre p Wi K hI hK
    obtain ⟨q, hq⟩ : ∃ q, Hid (q = p % 64) := ⟨_, rfl⟩
    rw [encE, ← hq.out]
    have hK' := fun a' => hK a' Wi (KeepsFrom.refl _ _) (Below.refl _ _) hI
    clear hK
    gi_wp2
    exact ⟨q, hq, rfl⟩
  case body =>
    rintro l2 pre p a' Wi hll ⟨rec, hrec⟩ ⟨hJi, ay, axi, hTi, hzi⟩ ⟨q, hq, rfl⟩ hlt
    have hq64 : q < 64 := by rw [hq.out]; exact Nat.mod_lt _ (by decide)
    have cy := ay.cell 0
    have ci := axi.cell 0
    simp only [List.getElem?_toArray, List.getElem?_cons_zero] at cy ci
    have hq1 : (q : Int) ≤ 63 := by omega
    obtain ⟨Cv, hCvd⟩ : ∃ Cv, comp (x / 2 ^ q) = Cv := ⟨_, rfl⟩
    have hdl : x / 2 ^ q < 18446744073709551616 := Nat.lt_of_le_of_lt (Nat.div_le_self _ _) hx
    have hCv : Cv < 18446744073709551616 := hCvd ▸ comp_lt hdl
    have e3 : Hid (bits BinOp.xor IntKind.u64 (if IntKind.u64.signed = true then -1 else IntKind.u64.max) ((x : Int) / 2 ^ q) = (Cv : Int)) := by rw [← hCvd]; exact comp_eq hdl
    obtain ⟨R, hR⟩ : ∃ R, Hid (Lib.ctz 64 Cv = R) := ⟨_, rfl⟩
    have hRl : runLen x q = R := by rw [runLen, hCvd]; exact hR.out
    have hTd : Tab Wi.drew := hTi
    have hJd : J pre Wi.drew := hJ pre Wi Wi.drew none hJi (grown_of_below ((Below.refl _ _).drew)) (fun r e => by cases e)
    obtain ⟨fn, tmps, assign, body, hy, hRd⟩ := hY pre p Wi.drew hJd (by rw [hst.out]; exact hlt)
    rw [show encR x p = #[.int .i64 (q : Int), .int .i64 (R : Int)] by rw [encR, ← hq.out, hRl]] at hy
    clear hY hCvd hRl hlt hJd
    gi_wp2_with fail
    refine wpIn_region_lift (by kernel_rfl) (by kernel_rfl) ?_
    (refine' wpAnyIn_take (i := 1) rfl rfl (by kernel_rfl) (by kernel_rfl) (by kernel_rfl) (fun _ _ _ h => h) ⟨Or.inl ⟨by rfl, ?_⟩, fun _ => by rfl⟩ ?_; rotate_left; (· (intro wq; go_simp; first | done | with_reducible rfl)); simp only [Act.put, List.getElem_toArray, List.getElem_cons_zero, List.getElem_cons_succ, List.setIfInBounds_toArray, List.set_cons_zero, List.set_cons_succ])
    (refine' wpAnyIn_take (i := 3) rfl rfl (by kernel_rfl) (by kernel_rfl) (by kernel_rfl) (fun _ _ _ h => h) ⟨Or.inl ⟨by rfl, ?_⟩, fun _ => by rfl⟩ ?_; rotate_left; (· (intro wq; go_simp; first | done | with_reducible rfl)); simp only [Act.put, List.getElem_toArray, List.getElem_cons_zero, List.getElem_cons_succ, List.setIfInBounds_toArray, List.set_cons_zero, List.set_cons_succ])
    refine wpAnyIn_ready (rs := [0, 2]) (by kernel_rfl) (by simp) ?_
    refine AllReadyIn.cons rfl (fun K hK => ?_) ?_
    · rw [if_pos (by rfl)]
      unfold Oper.wpIn
      go_simp
      refine hK _ _ ?_
      clear hK K
      refine wpAnyIn_ready (rs := [2]) (by kernel_rfl) (by simp) ?_
      refine AllReadyIn.cons rfl (fun K hK => ?_) ?_
      · rw [if_pos (by rfl)]
        unfold Oper.wpIn
        go_simp
        refine hK _ _ ?_
        clear hK K
        (refine' wpAnyIn_take (i := 4) rfl rfl (by kernel_rfl) (by kernel_rfl) (by kernel_rfl) (fun _ _ _ h => h) ⟨Or.inl ⟨by rfl, ?_⟩, fun _ => by rfl⟩ ?_; rotate_left; (· (intro wq; go_simp; first | done | with_reducible rfl)); simp only [Act.put, List.getElem_toArray, List.getElem_cons_zero, List.getElem_cons_succ, List.setIfInBounds_toArray, List.set_cons_zero, List.set_cons_succ])
        (refine' wpAnyIn_take (i := 5) rfl rfl (by kernel_rfl) (by kernel_rfl) (by kernel_rfl) (fun _ _ _ h => h) ⟨Or.inl ⟨by rfl, ?_⟩, fun _ => by rfl⟩ ?_; rotate_left; (· (intro wq; go_simp; first | done | with_reducible rfl)); simp only [Act.put, List.getElem_toArray, List.getElem_cons_zero, List.getElem_cons_succ, List.setIfInBounds_toArray, List.set_cons_zero, List.set_cons_succ])
        refine wpAnyIn_ready (rs := [6]) (by kernel_rfl) (by simp) ?_
        refine AllReadyIn.cons rfl (fun K hK => ?_) ?_
        · rw [if_pos (by rfl)]
          unfold Oper.wpIn
          go_simp
          rw [e3.out]
          refine ⟨trivial, (fun h => by cases h), ?_⟩
          refine (callsIn_wide.2 (tz_calls Cv R hCv hR _ hTd)).mono ?_
          rintro e w3 ⟨rfl, rfl⟩
          refine hK _ _ ?_
          clear hK K
          refine wpAnyIn_ready (rs := [7]) (by kernel_rfl) (by simp) ?_
          refine AllReadyIn.cons rfl (fun K hK => ?_) ?_
          · rw [if_pos (by rfl)]
            unfold Oper.wpIn
            go_simp
            refine ⟨(fun h => by cases h), (roundIn_any hRd).mono ?_⟩
            rintro e W3 (⟨rfl, hJ3, hk3⟩ | ⟨rfl, hJx3, hk3⟩)
            · refine hK _ _ ?_
              clear hK K
              (refine' wpAnyIn_take (i := 8) rfl rfl (by kernel_rfl) (by kernel_rfl) (by kernel_rfl) (fun _ _ _ h => h) ⟨Or.inl ⟨by rfl, ?_⟩, fun _ => by rfl⟩ ?_; rotate_left; (· (intro wq; go_simp; first | done | with_reducible rfl)); simp only [Act.put, List.getElem_toArray, List.getElem_cons_zero, List.getElem_cons_succ, List.setIfInBounds_toArray, List.set_cons_zero, List.set_cons_succ])
              refine wpAnyIn_done (by kernel_rfl) ?_ _
              have a2 := hk3.at ay (.inl hB)
              have a3 := hk3.at axi (.inr rfl)
              have hT3 := hTd.below hk3.1 h0
              have hs3 : w1.heap.size ≤ W3.heap.size := Nat.le_trans hzi hk3.2.1
              have kf : KeepsFrom w1.heap.size Wi W3 := KeepsFrom.trans ((KeepsOthers.drew Wi).from _) (hk3.from (by omega))
              have hbl : Below n0 Wi W3 := ((Below.refl _ Wi).drew).trans hk3.1
              clear hy hRd hJi hrec hk3
              rename_i Kz hKz
              refine hKz _ _ ?_
              gi_wp2
              exact ⟨kf, hbl, hJ3, a2, a3, hT3, hs3⟩
            · refine hK _ _ ?_
              clear hK K
              (refine' wpAnyIn_take (i := 8) rfl rfl (by kernel_rfl) (by kernel_rfl) (by kernel_rfl) (fun _ _ _ h => h) ⟨Or.inl ⟨by rfl, ?_⟩, fun _ => by rfl⟩ ?_; rotate_left; (· (intro wq; go_simp; first | done | with_reducible rfl)); simp only [Act.put, List.getElem_toArray, List.getElem_cons_zero, List.getElem_cons_succ, List.setIfInBounds_toArray, List.set_cons_zero, List.set_cons_succ])
              refine wpAnyIn_done (by kernel_rfl) ?_ _
              have kf : KeepsFrom w1.heap.size Wi W3 := KeepsFrom.trans ((KeepsOthers.drew Wi).from _) (hk3.from (by omega))
              clear hy hRd hJi hrec hk3
              rename_i Kz hKz
              refine hKz _ _ ?_
              gi_wp2
              exact ⟨kf, rfl, hJx3⟩
          · exact AllReadyIn.nil
        · exact AllReadyIn.nil
      · exact AllReadyIn.nil
    · refine AllReadyIn.cons rfl (fun K hK => ?_) ?_
      · rw [if_pos (by rfl)]
        unfold Oper.wpIn
        go_simp
        refine hK _ _ ?_
        clear hK K
        (refine' wpAnyIn_take (i := 4) rfl rfl (by kernel_rfl) (by kernel_rfl) (by kernel_rfl) (fun _ _ _ h => h) ⟨Or.inl ⟨by rfl, ?_⟩, fun _ => by rfl⟩ ?_; rotate_left; (· (intro wq; go_simp; first | done | with_reducible rfl)); simp only [Act.put, List.getElem_toArray, List.getElem_cons_zero, List.getElem_cons_succ, List.setIfInBounds_toArray, List.set_cons_zero, List.set_cons_succ])
        (refine' wpAnyIn_take (i := 5) rfl rfl (by kernel_rfl) (by kernel_rfl) (by kernel_rfl) (fun _ _ _ h => h) ⟨Or.inl ⟨by rfl, ?_⟩, fun _ => by rfl⟩ ?_; rotate_left; (· (intro wq; go_simp; first | done | with_reducible rfl)); simp only [Act.put, List.getElem_toArray, List.getElem_cons_zero, List.getElem_cons_succ, List.setIfInBounds_toArray, List.set_cons_zero, List.set_cons_succ])
        refine wpAnyIn_ready (rs := [0, 6]) (by kernel_rfl) (by simp) ?_
        refine AllReadyIn.cons rfl (fun K hK => ?_) ?_
        · rw [if_pos (by rfl)]
          unfold Oper.wpIn
          go_simp
          refine hK _ _ ?_
          clear hK K
          refine wpAnyIn_ready (rs := [6]) (by kernel_rfl) (by simp) ?_
          refine AllReadyIn.cons rfl (fun K hK => ?_) ?_
          · rw [if_pos (by rfl)]
            unfold Oper.wpIn
            go_simp
            rw [e3.out]
            refine ⟨trivial, (fun h => by cases h), ?_⟩
            refine (callsIn_wide.2 (tz_calls Cv R hCv hR _ hTd)).mono ?_
            rintro e w3 ⟨rfl, rfl⟩
            refine hK _ _ ?_
            clear hK K
            refine wpAnyIn_ready (rs := [7]) (by kernel_rfl) (by simp) ?_
            refine AllReadyIn.cons rfl (fun K hK => ?_) ?_
            · rw [if_pos (by rfl)]
              unfold Oper.wpIn
              go_simp
              refine ⟨(fun h => by cases h), (roundIn_any hRd).mono ?_⟩
              rintro e W3 (⟨rfl, hJ3, hk3⟩ | ⟨rfl, hJx3, hk3⟩)
              · refine hK _ _ ?_
                clear hK K
                (refine' wpAnyIn_take (i := 8) rfl rfl (by kernel_rfl) (by kernel_rfl) (by kernel_rfl) (fun _ _ _ h => h) ⟨Or.inl ⟨by rfl, ?_⟩, fun _ => by rfl⟩ ?_; rotate_left; (· (intro wq; go_simp; first | done | with_reducible rfl)); simp only [Act.put, List.getElem_toArray, List.getElem_cons_zero, List.getElem_cons_succ, List.setIfInBounds_toArray, List.set_cons_zero, List.set_cons_succ])
                refine wpAnyIn_done (by kernel_rfl) ?_ _
                have a2 := hk3.at ay (.inl hB)
                have a3 := hk3.at axi (.inr rfl)
                have hT3 := hTd.below hk3.1 h0
                have hs3 : w1.heap.size ≤ W3.heap.size := Nat.le_trans hzi hk3.2.1
                have kf : KeepsFrom w1.heap.size Wi W3 := KeepsFrom.trans ((KeepsOthers.drew Wi).from _) (hk3.from (by omega))
                have hbl : Below n0 Wi W3 := ((Below.refl _ Wi).drew).trans hk3.1
                clear hy hRd hJi hrec hk3
                rename_i Kz hKz
                refine hKz _ _ ?_
                gi_wp2
                exact ⟨kf, hbl, hJ3, a2, a3, hT3, hs3⟩
              · refine hK _ _ ?_
                clear hK K
                (refine' wpAnyIn_take (i := 8) rfl rfl (by kernel_rfl) (by kernel_rfl) (by kernel_rfl) (fun _ _ _ h => h) ⟨Or.inl ⟨by rfl, ?_⟩, fun _ => by rfl⟩ ?_; rotate_left; (· (intro wq; go_simp; first | done | with_reducible rfl)); simp only [Act.put, List.getElem_toArray, List.getElem_cons_zero, List.getElem_cons_succ, List.setIfInBounds_toArray, List.set_cons_zero, List.set_cons_succ])
                refine wpAnyIn_done (by kernel_rfl) ?_ _
                have kf : KeepsFrom w1.heap.size Wi W3 := KeepsFrom.trans ((KeepsOthers.drew Wi).from _) (hk3.from (by omega))
                clear hy hRd hJi hrec hk3
                rename_i Kz hKz
                refine hKz _ _ ?_
                gi_wp2
                exact ⟨kf, rfl, hJx3⟩
            · exact AllReadyIn.nil
          · exact AllReadyIn.nil
        · refine AllReadyIn.cons rfl (fun K hK => ?_) ?_
          · rw [if_pos (by rfl)]
            unfold Oper.wpIn
            go_simp
            rw [e3.out]
            refine ⟨trivial, (fun h => by cases h), ?_⟩
            refine (callsIn_wide.2 (tz_calls Cv R hCv hR _ hTd)).mono ?_
            rintro e w3 ⟨rfl, rfl⟩
            refine hK _ _ ?_
            clear hK K
            refine wpAnyIn_ready (rs := [0]) (by kernel_rfl) (by simp) ?_
            refine AllReadyIn.cons rfl (fun K hK => ?_) ?_
            · rw [if_pos (by rfl)]
              unfold Oper.wpIn
              go_simp
              refine hK _ _ ?_
              clear hK K
              refine wpAnyIn_ready (rs := [7]) (by kernel_rfl) (by simp) ?_
              refine AllReadyIn.cons rfl (fun K hK => ?_) ?_
              · rw [if_pos (by rfl)]
                unfold Oper.wpIn
                go_simp
                refine ⟨(fun h => by cases h), (roundIn_any hRd).mono ?_⟩
                rintro e W3 (⟨rfl, hJ3, hk3⟩ | ⟨rfl, hJx3, hk3⟩)
                · refine hK _ _ ?_
                  clear hK K
                  (refine' wpAnyIn_take (i := 8) rfl rfl (by kernel_rfl) (by kernel_rfl) (by kernel_rfl) (fun _ _ _ h => h) ⟨Or.inl ⟨by rfl, ?_⟩, fun _ => by rfl⟩ ?_; rotate_left; (· (intro wq; go_simp; first | done | with_reducible rfl)); simp only [Act.put, List.getElem_toArray, List.getElem_cons_zero, List.getElem_cons_succ, List.setIfInBounds_toArray, List.set_cons_zero, List.set_cons_succ])
                  refine wpAnyIn_done (by kernel_rfl) ?_ _
                  have a2 := hk3.at ay (.inl hB)
                  have a3 := hk3.at axi (.inr rfl)
                  have hT3 := hTd.below hk3.1 h0
                  have hs3 : w1.heap.size ≤ W3.heap.size := Nat.le_trans hzi hk3.2.1
                  have kf : KeepsFrom w1.heap.size Wi W3 := KeepsFrom.trans ((KeepsOthers.drew Wi).from _) (hk3.from (by omega))
                  have hbl : Below n0 Wi W3 := ((Below.refl _ Wi).drew).trans hk3.1
                  clear hy hRd hJi hrec hk3
                  rename_i Kz hKz
                  refine hKz _ _ ?_
                  gi_wp2
                  exact ⟨kf, hbl, hJ3, a2, a3, hT3, hs3⟩
                · refine hK _ _ ?_
                  clear hK K
                  (refine' wpAnyIn_take (i := 8) rfl rfl (by kernel_rfl) (by kernel_rfl) (by kernel_rfl) (fun _ _ _ h => h) ⟨Or.inl ⟨by rfl, ?_⟩, fun _ => by rfl⟩ ?_; rotate_left; (· (intro wq; go_simp; first | done | with_reducible rfl)); simp only [Act.put, List.getElem_toArray, List.getElem_cons_zero, List.getElem_cons_succ, List.setIfInBounds_toArray, List.set_cons_zero, List.set_cons_succ])
                  refine wpAnyIn_done (by kernel_rfl) ?_ _
                  have kf : KeepsFrom w1.heap.size Wi W3 := KeepsFrom.trans ((KeepsOthers.drew Wi).from _) (hk3.from (by omega))
                  clear hy hRd hJi hrec hk3
                  rename_i Kz hKz
                  refine hKz _ _ ?_
                  gi_wp2
                  exact ⟨kf, rfl, hJx3⟩
              · exact AllReadyIn.nil
            · exact AllReadyIn.nil
          · exact AllReadyIn.nil
      · exact AllReadyIn.nil
  case done =>
    rintro D xs Wi hD hxs ⟨hJi, -, -, -, -⟩ hK
    clear hY
    gi_wp2
    refine ⟨by simp, .inl ⟨_, _, rfl, run_takeDeferred hK, ?_⟩⟩
    refine ⟨_, results_none rfl _ _ _, ⟨_, rfl⟩, .inl ⟨xs, hxs.trans hst.out.symm, hJ.putObj _ hJi (by omega) hK rfl⟩⟩
  case stop =>
    rintro D c pre Wi hD hpre ⟨rfl, hX⟩ hK
    clear hY
    gi_wp2
    refine ⟨by simp, .inl ⟨_, _, rfl, run_takeDeferred hK, ?_⟩⟩
    refine ⟨_, results_none rfl _ _ _, ⟨_, rfl⟩, .inr ⟨pre, by rw [hst.out]; exact hpre, hJx.putObj _ hX (by omega) hK rfl⟩⟩

theorem runs_held (n : Nat) (hn : 1 ≤ n) (Bx n0 B x : Nat) (hx : x < 18446744073709551616) (h0 : 0 < n0) (w : World) (hn0 : n0 ≤ w.heap.size) (hw0 : 0 < w.heap.size) (hB : B ≤ w.heap.size + 1 + 1) (hT : Tab w) (ax : At w Bx #[.int .u64 (x : Int)] 49) :
    SeqHeld n Tryz.prog 139 #[.pointer (some ⟨Bx, 0, none⟩)] (encR x) (Held n0 B Bx) (fun xs => xs = starts x) (fun pre => pre <+: starts x) (starts x).length w :=
  fun l J Jx W hW hJ hJx hY hJ0 hsz => runs1_in n hn l Bx n0 B x hx h0 J Jx W (Nat.le_trans hn0 hW.size) (Nat.le_trans hB hsz) hJ hJx hY (hT.below hW hw0) (ax.keptAll hW) hJ0

theorem runs_calls (x : Nat) (w : World) :
    Calls Tryz.prog 123 #[.int .u64 (x : Int)] w fun e w' => e = .returned (.func (.func 139) #[] #[.pointer (some ⟨w.heap.size, 0, none⟩)]) ∧ w' = w.alloc (.cells #[.int .u64 (x : Int)] 49) := by
  have hmf : ∀ (fn : Fn) (first cap : Array Value) (w : World), (Instr.makeFunc fn first cap).run Tryz.prog w = .ok (.func fn first cap) w := fun _ _ _ _ => rfl
  go_enter Tryz.func123, Tryz.ntmps123
  go_wp2
  go_ret
  exact ⟨rfl, rfl⟩
end Go.Proofs.YtlckhiflhnlgpaaGreatDoor

/-
  What words.Escaped answers.
-/
namespace Go.Proofs.YtlckhiflhnlgpaaGreatDoor
open Go.RowKit Go.Shelf

attribute [local go_sem] Oper.semAt_some

/-- The frame in which a round's body begins. -/
def escFrame (x e0 y b : Nat) (c : Bool) (q r : Nat) : Act :=
  { tmps := #[.int .u64 (x : Int), .bool c, undef, undef, .int .u64 0, .bool false, .pointer (some ⟨b, 0, none⟩), .int .i64 (q : Int), .int .i64 (r : Int), undef, .bool c, .int .u64 (e0 : Int), .int .u64 (x : Int), .int .u64 (e0 : Int), .int .u64 (y : Int),
      .func (.func 139) #[] #[.pointer (some ⟨b + 1, 0, none⟩)], .int .i64 (q : Int), .int .i64 (r : Int), undef, undef, undef, undef, undef, undef, undef, undef, undef, undef, undef, undef, undef, undef, undef, undef], defers := [] }

theorem row_eq (q r1 V : Nat) (hV : V = (12297829382473034410 &&& (2 ^ min r1 64 - 1)) * 2 ^ q % 18446744073709551616) :
    IntKind.u64.wrap (bits BinOp.and IntKind.u64 12297829382473034410 (IntKind.u64.wrap (IntKind.u64.wrap ((2 : Int) ^ min r1 64) - 1)) * 2 ^ q) = (V : Int) := by
  obtain ⟨m, hm, hm64⟩ : ∃ m, min r1 64 = m ∧ m ≤ 64 := ⟨_, rfl, Nat.min_le_right _ _⟩
  rw [hm] at hV ⊢
  have hp : (2 : Nat) ^ m ≤ 18446744073709551616 := Nat.pow_le_pow_right (n := 2) (j := 64) (by decide) hm64
  have hp0 : 0 < (2 : Nat) ^ m := Nat.pow_pos (by decide)
  have e : ((2 : Int) ^ m) = ((2 ^ m : Nat) : Int) := by simp
  have e1 : IntKind.u64.wrap (IntKind.u64.wrap ((2 : Int) ^ m) - 1) = ((2 ^ m - 1 : Nat) : Int) := by
    rw [e, IntKind.wrap_u64, IntKind.wrap_u64]
    by_cases h : 2 ^ m = 18446744073709551616
    · rw [h]; rfl
    · omega
  have b : bits BinOp.and IntKind.u64 12297829382473034410 ((2 ^ m - 1 : Nat) : Int) = ((12297829382473034410 &&& (2 ^ m - 1) : Nat) : Int) := bits_and_u64_nat 12297829382473034410 (2 ^ m - 1) (by decide) (by omega)
  rw [e1, b, hV, IntKind.wrap_u64]
  simp

set_option maxRecDepth 100000 in
set_option maxHeartbeats 1000000 in
theorem escaped_in (x S : Nat) (c C : Bool) (hx : x < 18446744073709551616) (hS : Hid (escW x c = S ∧ escC x c 64 = C)) (w : World) (hT : Tab w) (h0 : 0 < w.heap.size) :
    CallsIn Fence.wide 3 Tryz.prog 104 #[.int .u64 (x : Int), .bool c] w fun e w' => e = .returned (.tuple #[.int .u64 (S : Int), .bool C]) ∧ Below w.heap.size w w' := by
  obtain ⟨e0, he0⟩ : ∃ e0, c.toNat = e0 := ⟨_, rfl⟩
  have hone : ∀ w, Calls Tryz.prog 122 #[.bool c] w fun e w' => e = .returned (.int .u64 (e0 : Int)) ∧ w' = w := by
    intro w
    subst he0
    cases c <;> (go_enter Tryz.func122, Tryz.ntmps122; go_wp2; go_ret; exact ⟨rfl, rfl⟩)
  have hel : e0 < 18446744073709551616 := by rw [← he0]; cases c <;> decide
  obtain ⟨y, hyd⟩ : ∃ y, andn x e0 = y := ⟨_, rfl⟩
  have hy : y < 18446744073709551616 := hyd ▸ andn_lt hx
  have e1 : bits BinOp.andNot IntKind.u64 (x : Int) (e0 : Int) = (y : Int) := by rw [bits_andn x e0 hx hel, hyd]
  have hfin : Hid (rowsW y e0 (starts y) = S) := by
    show _ = _
    have := esc_rows x c hx
    rw [he0, hyd] at this
    exact this.trans hS.out.1
  have hout : Hid (andn x S / 9223372036854775808 = C.toNat) := by
    show _ = _
    have := esc_out x c hx
    rw [hS.out.1, hS.out.2] at this
    exact this
  have hSl : S < 18446744073709551616 := hS.out.1 ▸ escW_lt x c
  have hone' : Hid _ := hone
  clear hone he0 hyd hS
  refine callsIn_of_wp_marks Tryz.func104 rfl trivial ?_ rfl
  simp only [Tryz.ntmps104, List.size_toArray, List.length_cons, List.length_nil, Nat.reduceAdd, Nat.reduceSub, Array.replicate_succ, Array.replicate_zero, List.push_toArray, List.append_toArray, List.nil_append, List.cons_append]
  gi_wp2_with fail
  refine ⟨trivial, ?_⟩
  refine (callsIn_wide.2 (hone'.out _)).mono ?_
  rintro e w0 ⟨rfl, rfl⟩
  gi_wp2_with fail
  refine ⟨trivial, ?_⟩
  refine (callsIn_wide.2 (runs_calls y _)).mono ?_
  rintro e w1 ⟨rfl, hw1⟩
  have a0 : At w1 w0.heap.size #[.int .u64 (e0 : Int)] 49 := by rw [hw1]; exact (At.new w0 _ _).alloc _
  have a1 : At w1 (w0.heap.size + 1) #[.int .u64 (y : Int)] 49 := by
    have h := At.new (w0.alloc (.cells #[.int .u64 (e0 : Int)] 49)) #[.int .u64 (y : Int)] 49
    rw [hw1]; simpa using h
  have hB : Below w0.heap.size w0 w1 := by rw [hw1]; repeat (first | with_reducible exact Below.refl _ _ | with_reducible refine Below.setCell ?_ (by first | (simp; done) | (simp; omega)) _ | with_reducible refine below_drewN ?_ _ | with_reducible refine Below.alloc ?_ (by first | (simp; done) | (simp; omega)) _ | with_reducible refine Below.drew ?_)
  have hz : w1.heap.size = w0.heap.size + 1 + 1 := by rw [hw1]; simp
  have hzb : (w0.alloc (.cells #[.int .u64 (e0 : Int)] 49)).heap.size = w0.heap.size + 1 := by simp
  rw [hzb]
  clear hw1 hzb
  have hT1 := hT.below hB h0
  gi_wp2_with fail
  refine range_held (n := 3) (by decide) (gf := 139) (lb := #[.pointer (some ⟨w0.heap.size + 1, 0, none⟩)]) rfl (enters_of Tryz.func139 (by kernel_rfl) rfl)
    (runs_held (3 - 1) (by decide) (w0.heap.size + 1) w0.heap.size (w1.heap.size + 1 + 1) y hy h0 w1 (by omega) (by omega) (Nat.le_refl _) hT1 a1) (Below.refl _ _) (fun _ => rfl) Held.trans (fun W r r' h => Held.turn h (by omega) (by omega) (by omega))
    (fun pre W => At W w0.heap.size #[.int .u64 ((rowsW y e0 pre : Nat) : Int)] 49 ∧ Below w0.heap.size w0 W)
    (fun _ _ _ => False)
    (fun _ X Y row ⟨h1, hb⟩ hg hr => ⟨h1.own hg (fun r e => (hr r e).2), ownFrom_below (β := List Nat) (Nat.le_refl _) (by omega) [] X Y row hb hg hr⟩)
    (fun _ _ _ _ _ hs _ _ => hs)
    ⟨a0, hB⟩
    (fun p => escFrame x e0 y w0.heap.size c (p % 64) (runLen y (p % 64)))
    ?assign ?body ?done ?stop
  case assign =>
    intro l p W K hK
    rw [encR]
    generalize runLen y (p % 64) = r at *
    generalize p % 64 = q at *
    gi_wp2
    exact hK
  case body =>
    intro l pre p W hll ⟨h1, hb⟩ hlt
    have hq : p % 64 < 64 := Nat.mod_lt _ (by decide)
    have hr : runLen y (p % 64) ≤ 64 := by have := (run_spec hy hq).2.2; omega
    have hrow := rowW_lt y p
    have hpl := rowsW_lt y e0 hel pre
    have hsn := rowsW_snoc y e0 pre p
    have hdef : rowW y p = (12297829382473034410 &&& (2 ^ min (runLen y (p % 64) + 1) 64 - 1)) * 2 ^ (p % 64) % 18446744073709551616 := rfl
    obtain ⟨V, hV⟩ : ∃ V, rowW y p = V := ⟨_, rfl⟩
    rw [hV] at hrow hsn hdef
    generalize rowsW y e0 pre = E at *
    generalize runLen y (p % 64) = r at *
    generalize p % 64 = q at *
    have hor := bits_or_u64 E V hpl hrow
    have c1 := h1.cell 0
    have f1 := h1.frozen 0
    simp only [List.getElem?_toArray, List.getElem?_cons_zero] at c1
    have hdef' : Hid _ := hdef
    have hsn' : Hid _ := hsn
    clear hdef hsn hV
    obtain ⟨r1, hr1⟩ : ∃ r1, r + 1 = r1 := ⟨_, rfl⟩
    rw [hr1] at hdef'
    have e4 : (r : Int) + 1 = (r1 : Int) := by omega
    have hr1l : r1 ≤ 65 := by omega
    clear hr1 hr
    unfold escFrame
    have e5 := row_eq q r1 V hdef'.out
    replace e5 : Hid _ := e5
    gi_wp2_with fail
    refine wpIn_region_lift (by kernel_rfl) (by kernel_rfl) ?_
    (refine' wpAnyIn_take (i := 1) rfl rfl (by kernel_rfl) (by kernel_rfl) (by kernel_rfl) (fun _ _ _ h => h) ⟨Or.inl ⟨by rfl, ?_⟩, fun _ => by rfl⟩ ?_; rotate_left; (· (intro wq; go_simp; first | done | with_reducible rfl)); simp only [Act.put, List.getElem_toArray, List.getElem_cons_zero, List.getElem_cons_succ, List.setIfInBounds_toArray, List.set_cons_zero, List.set_cons_succ])
    (refine' wpAnyIn_take (i := 2) rfl rfl (by kernel_rfl) (by kernel_rfl) (by kernel_rfl) (fun _ _ _ h => h) ⟨Or.inl ⟨by rfl, ?_⟩, fun _ => by rfl⟩ ?_; rotate_left; (· (intro wq; go_simp; first | done | with_reducible rfl)); simp only [Act.put, List.getElem_toArray, List.getElem_cons_zero, List.getElem_cons_succ, List.setIfInBounds_toArray, List.set_cons_zero, List.set_cons_succ])
    (refine' wpAnyIn_take (i := 3) rfl rfl (by kernel_rfl) (by kernel_rfl) (by kernel_rfl) (fun _ _ _ h => h) ⟨Or.inl ⟨by rfl, ?_⟩, fun _ => by rfl⟩ ?_; rotate_left; (· (intro wq; go_simp; first | done | with_reducible rfl)); simp only [Act.put, List.getElem_toArray, List.getElem_cons_zero, List.getElem_cons_succ, List.setIfInBounds_toArray, List.set_cons_zero, List.set_cons_succ])
    (refine' wpAnyIn_take (i := 4) rfl rfl (by kernel_rfl) (by kernel_rfl) (by kernel_rfl) (fun _ _ _ h => h) ⟨Or.inl ⟨by rfl, ?_⟩, fun _ => by rfl⟩ ?_; rotate_left; (· (intro wq; go_simp; first | done | with_reducible rfl)); simp only [Act.put, List.getElem_toArray, List.getElem_cons_zero, List.getElem_cons_succ, List.setIfInBounds_toArray, List.set_cons_zero, List.set_cons_succ])
    refine wpAnyIn_ready (rs := [0]) (by kernel_rfl) (by simp) ?_
    refine AllReadyIn.cons rfl (fun K hK => ?_) ?_
    · rw [if_pos (by rfl)]
      unfold Oper.wpIn
      go_simp
      refine hK _ _ ?_
      clear hK K
      rw [e5.out]
      (refine' wpAnyIn_take (i := 5) rfl rfl (by kernel_rfl) (by kernel_rfl) (by kernel_rfl) (fun _ _ _ h => h) ⟨Or.inl ⟨by rfl, ?_⟩, fun _ => by rfl⟩ ?_; rotate_left; (· (intro wq; go_simp; first | done | with_reducible rfl)); simp only [Act.put, List.getElem_toArray, List.getElem_cons_zero, List.getElem_cons_succ, List.setIfInBounds_toArray, List.set_cons_zero, List.set_cons_succ])
      refine wpAnyIn_ready (rs := [6]) (by kernel_rfl) (by simp) ?_
      refine AllReadyIn.cons rfl (fun K hK => ?_) ?_
      · rw [if_pos (by rfl)]
        unfold Oper.wpIn
        go_simp
        refine hK _ _ ?_
        clear hK K
        refine wpAnyIn_done (by kernel_rfl) ?_ _
        refine ⟨((KeepsOthers.drew W).trans (KeepsOthers.setCell _ _ _)).from _, (Held.drew W).trans (Held.setCell (b := w0.heap.size) _ _ (Nat.le_refl _) (by omega) (by omega)), ?_, (hb.drew).setCell (p := ⟨w0.heap.size, 0, none⟩) (Nat.le_refl _) _⟩
        rw [hsn'.out]
        exact h1.drew.set 0 _
      · exact AllReadyIn.nil
    · exact AllReadyIn.nil
  case done =>
    rintro D xs W hD rfl ⟨h1, hb⟩ hK
    rw [hfin.out] at h1
    have c1 := h1.cell 0
    simp only [List.getElem?_toArray, List.getElem?_cons_zero] at c1
    obtain ⟨Z, hZ⟩ : ∃ Z, andn x S = Z := ⟨_, rfl⟩
    have b2 : bits BinOp.andNot IntKind.u64 (x : Int) (S : Int) = (Z : Int) := by rw [bits_andn x S hx hSl, hZ]
    have b3 : ((Z : Int) / 9223372036854775808 == 1) = C := by
      have h := hout.out
      rw [hZ] at h
      have e : ((Z : Int) / 9223372036854775808) = ((Z / 9223372036854775808 : Nat) : Int) := by simp
      rw [e, h]
      cases C <;> rfl
    gi_wp2
    gi_region
    all_goals gi_wp2
    refine ⟨by simp, .inl ⟨_, _, rfl, run_takeDeferred (w := W.drew) hK, ?_⟩⟩
    exact ⟨_, results_tmp2 rfl _ _ _, rfl, hb.drew.trans (belowK_b (w := w0) (Nat.le_refl _) W.drew D _ _ (by omega) hK rfl rfl)⟩
  case stop =>
    rintro D c pre W _ _ h _
    exact h.elim

theorem escaped_calls (x S : Nat) (c C : Bool) (hx : x < 18446744073709551616) (hS : Hid (escW x c = S ∧ escC x c 64 = C)) (w : World) (hT : Tab w) (h0 : 0 < w.heap.size) :
    Calls Tryz.prog 104 #[.int .u64 (x : Int), .bool c] w fun e w' => e = .returned (.tuple #[.int .u64 (S : Int), .bool C]) ∧ Below w.heap.size w w' := callsIn_wide.1 (escaped_in x S c C hx hS w hT h0)
end Go.Proofs.YtlckhiflhnlgpaaGreatDoor

/-
  What words.Select answers.
-/
namespace Go.Proofs.YtlckhiflhnlgpaaGreatDoor
open Go.RowKit Go.Shelf

attribute [local go_sem] Oper.semAt_some

end Go.Proofs.YtlckhiflhnlgpaaGreatDoor
