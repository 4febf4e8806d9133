/-
  What words.Runs tells: the rows of set bits, one behind the other. It ranges over words.Each and calls its yield in those rounds.
-/
import Derived.Test.YtmjmcdoanolelaaDoorEachSeq
import Derived.Test.YtmjmcdoanolelaaDoorWordsA
import Derived.Test.YtmjmcdoanolelaaDoorKitA
namespace Go.Proofs.YtmjmcdoanolelaaDoor
open Go.RowKit Go.Shelf

attribute [local go_sem] Oper.semAt_some

/-- What is told of a row that begins at p. -/
def encR (x p : Nat) : Array Value := #[.int .i64 ((p % 64 : Nat) : Int), .int .i64 ((runLen x (p % 64) : Nat) : Int)]

theorem comp_eq {x q : Nat} (h : x / 2 ^ q < 18446744073709551616) : bits BinOp.xor IntKind.u64 (if IntKind.u64.signed = true then -1 else IntKind.u64.max) ((x : Int) / 2 ^ q) = ((comp (x / 2 ^ q) : Nat) : Int) := by
  have e : ((x : Int) / 2 ^ q) = ((x / 2 ^ q : Nat) : Int) := by simp
  rw [e, show (if IntKind.u64.signed = true then (-1 : Int) else IntKind.u64.max) = ((18446744073709551615 : Nat) : Int) by decide]
  exact bits_xor_u64 18446744073709551615 (x / 2 ^ q) (by decide) h

set_option maxRecDepth 100000 in
set_option maxHeartbeats 1000000 in
theorem runs1_in (n : Nat) (hn : 1 ≤ n) (l Bx n0 B x : Nat) (hx : x < 18446744073709551616) (h0 : 0 < n0) (J Jx : List Nat → World → Prop) (W : World) (hn0 : n0 ≤ W.heap.size) (hB : B ≤ W.heap.size)
    (hJ : OwnFrom W.heap.size J) (hJx : OwnFrom W.heap.size Jx)
    (hY : ∀ pre p W1, J pre W1 → pre.length < (starts x).length → YieldAt Fence.wide (n - 1) Tryd.prog l (encR x p) W1 fun e W' =>
      (e = .returned (.bool true) ∧ J (pre ++ [p]) W' ∧ Held n0 B Bx W1 W') ∨ (e = .returned (.bool false) ∧ Jx (pre ++ [p]) W' ∧ Held n0 B Bx W1 W'))
    (hT : Tab W) (ax : At W Bx #[.int .u64 (x : Int)] 46) (hJ0 : J [] W) :
    CallsIn Fence.wide n Tryd.prog 66 #[.func (.yield l) #[] #[], .pointer (some ⟨Bx, 0, none⟩)] W fun e W' => (∃ v, e = .returned v) ∧
      ((∃ xs, xs = starts x ∧ J xs W') ∨ (∃ pre, pre <+: starts x ∧ Jx pre W')) := by
  have hf := firstsW_lt hx
  have cx := (ax.alloc (.cells #[.func (.yield l) #[] #[]] 101)).cell 0
  simp only [List.getElem?_toArray, List.getElem?_cons_zero] at cx
  have e1 : IntKind.u64.wrap ((x : Int) * 2) = ((x * 2 % 18446744073709551616 : Nat) : Int) := by rw [IntKind.wrap_u64]; omega
  have e2 : bits BinOp.andNot IntKind.u64 (x : Int) ((x * 2 % 18446744073709551616 : Nat) : Int) = ((firstsW x : Nat) : Int) := bits_andn x _ hx (Nat.mod_lt _ (by decide))
  obtain ⟨Y, hYd⟩ : ∃ Y, x * 2 % 18446744073709551616 = Y := ⟨_, rfl⟩
  rw [hYd] at e1 e2
  obtain ⟨Fs, hFs⟩ : ∃ Fs, firstsW x = Fs := ⟨_, rfl⟩
  have hst : Hid (starts x = places Fs) := by show _ = _; rw [starts, hFs]
  rw [hFs] at e2 hf
  clear hYd hFs
  refine callsIn_of_wp_marks Tryd.func66 rfl trivial ?_ rfl
  simp only [Tryd.ntmps66, List.size_toArray, List.length_cons, List.length_nil, Nat.reduceAdd, Nat.reduceSub, Array.replicate_succ, Array.replicate_zero, List.push_toArray, List.append_toArray, List.nil_append, List.cons_append]
  gi_wp2_with fail
  refine ⟨trivial, ?_⟩
  refine (callsIn_wide.2 (each_calls Fs _)).mono ?_
  rintro e w1 ⟨rfl, hw1⟩
  have a0 : At w1 W.heap.size #[.func (.yield l) #[] #[]] 101 := by rw [hw1]; exact (At.new W _ _).alloc _
  have a1 : At w1 (W.heap.size + 1) #[.int .u64 (Fs : Int)] 46 := by
    have h := At.new (W.alloc (.cells #[.func (.yield l) #[] #[]] 101)) #[.int .u64 (Fs : Int)] 46
    rw [hw1]; simpa using h
  have axw : At w1 Bx #[.int .u64 (x : Int)] 46 := by rw [hw1]; exact (ax.alloc _).alloc _
  have hbW : Below W.heap.size W w1 := by rw [hw1]; repeat (first | with_reducible exact Below.refl _ _ | with_reducible refine Below.setCell ?_ (by first | (simp; done) | (simp; omega)) _ | with_reducible refine below_drewN ?_ _ | with_reducible refine Below.alloc ?_ (by first | (simp; done) | (simp; omega)) _ | with_reducible refine Below.drew ?_)
  have hz : w1.heap.size = W.heap.size + 1 + 1 := by rw [hw1]; simp
  have hJ1 : J [] w1 := by rw [hw1]; exact hJ.alloc _ (hJ.alloc _ hJ0)
  clear hw1
  have hT1 := hT.below hbW (by omega)
  gi_wp2_with fail
  refine wpIn_rangeFunc_ownH rfl (n := n) hn (gf := 65) (lb := #[.pointer (some ⟨W.heap.size + 1, 0, none⟩)]) rfl trivial (enters_of Tryd.func65 (by kernel_rfl) rfl)
    (each_stops (n - 1) (W.heap.size + 1) n0 Fs hf h0 w1 a1.lt (by omega) hT1 (a1.cell 0)) belowK_t (belowK_b (by omega)) (Below.refl _ _) (fun _ => rfl)
    (fun pre Wi => J pre Wi ∧ At Wi W.heap.size #[.func (.yield l) #[] #[]] 101 ∧ At Wi Bx #[.int .u64 (x : Int)] 46 ∧ Tab Wi ∧ w1.heap.size ≤ Wi.heap.size)
    (fun c pre Wi => c = .ret ∧ Jx pre Wi)
    (fun s X Y row ⟨h1, h2, h3, h4, h5⟩ hg hr => ⟨hJ s X Y row h1 hg (fun r e => ⟨by have := (hr r e).1; omega, (hr r e).2⟩), h2.own hg (fun r e => (hr r e).2), h3.own hg (fun r e => (hr r e).2),
      fun j hj => (World.cell?_of_block (w := X) (hg.block 0 (by omega) (fun e => by have := (hr 0 e.symm).1; omega))).trans (h4 j hj), Nat.le_trans h5 hg.size⟩)
    (fun c s X Y row ⟨h1, h2⟩ hg hr => ⟨h1, hJx s X Y row h2 hg (fun r e => ⟨by have := (hr r e).1; omega, (hr r e).2⟩)⟩)
    ⟨hJ1, a0, axw, hT1, Nat.le_refl _⟩
    (fun p a' _ => ∃ q : Nat, Hid (q = p % 64) ∧ a' = { tmps := #[.func (.yield l) #[] #[], .pointer (some ⟨Bx, 0, none⟩), .pointer (some ⟨W.heap.size, 0, none⟩), .int .u64 (Fs : Int), .int .i64 (q : Int), .int .u64 (x : Int), .int .u64 (x : Int), .int .u64 (Y : Int), .int .u64 (Fs : Int), .int .u64 (Fs : Int), .func (.func 65) #[] #[.pointer (some ⟨W.heap.size + 1, 0, none⟩)], .int .i64 (q : Int), undef, undef, undef, undef, undef, undef, undef, undef, undef], defers := [] })
    (fun _ _ _ _ _ _ hs _ _ => hs) ?assign ?body ?done ?stop
  case assign =>
    intro l2 pre p Wi K hI hK
    obtain ⟨q, hq⟩ : ∃ q, Hid (q = p % 64) := ⟨_, rfl⟩
    rw [encE, ← hq.out]
    have hK' := fun a' => hK a' Wi (KeepsFrom.refl _ _) (Below.refl _ _) hI
    clear hK
    gi_wp2
    exact ⟨q, hq, rfl⟩
  case body =>
    rintro l2 pre p a' Wi hll ⟨rec, hrec⟩ ⟨hJi, ay, axi, hTi, hzi⟩ ⟨q, hq, rfl⟩ hlt
    have hq64 : q < 64 := by rw [hq.out]; exact Nat.mod_lt _ (by decide)
    have cy := ay.cell 0
    have ci := axi.cell 0
    simp only [List.getElem?_toArray, List.getElem?_cons_zero] at cy ci
    have hq1 : (q : Int) ≤ 63 := by omega
    obtain ⟨Cv, hCvd⟩ : ∃ Cv, comp (x / 2 ^ q) = Cv := ⟨_, rfl⟩
    have hdl : x / 2 ^ q < 18446744073709551616 := Nat.lt_of_le_of_lt (Nat.div_le_self _ _) hx
    have hCv : Cv < 18446744073709551616 := hCvd ▸ comp_lt hdl
    have e3 : Hid (bits BinOp.xor IntKind.u64 (if IntKind.u64.signed = true then -1 else IntKind.u64.max) ((x : Int) / 2 ^ q) = (Cv : Int)) := by rw [← hCvd]; exact comp_eq hdl
    obtain ⟨R, hR⟩ : ∃ R, Hid (Lib.ctz 64 Cv = R) := ⟨_, rfl⟩
    have hRl : runLen x q = R := by rw [runLen, hCvd]; exact hR.out
    have hTd : Tab Wi.drew := hTi
    have hJd : J pre Wi.drew := hJ pre Wi Wi.drew none hJi (grown_of_below ((Below.refl _ _).drew)) (fun r e => by cases e)
    obtain ⟨fn, tmps, assign, body, hy, hRd⟩ := hY pre p Wi.drew hJd (by rw [hst.out]; exact hlt)
    rw [show encR x p = #[.int .i64 (q : Int), .int .i64 (R : Int)] by rw [encR, ← hq.out, hRl]] at hy
    clear hY hCvd hRl hlt hJd
    gi_wp2_with fail
    refine wpIn_region_lift (by kernel_rfl) (by kernel_rfl) ?_
    (refine' wpAnyIn_take (i := 1) rfl rfl (by kernel_rfl) (by kernel_rfl) (by kernel_rfl) (fun _ _ _ h => h) ⟨Or.inl ⟨by rfl, ?_⟩, fun _ => by rfl⟩ ?_; rotate_left; (· (intro wq; go_simp; first | done | with_reducible rfl)); simp only [Act.put, List.getElem_toArray, List.getElem_cons_zero, List.getElem_cons_succ, List.setIfInBounds_toArray, List.set_cons_zero, List.set_cons_succ])
    (refine' wpAnyIn_take (i := 3) rfl rfl (by kernel_rfl) (by kernel_rfl) (by kernel_rfl) (fun _ _ _ h => h) ⟨Or.inl ⟨by rfl, ?_⟩, fun _ => by rfl⟩ ?_; rotate_left; (· (intro wq; go_simp; first | done | with_reducible rfl)); simp only [Act.put, List.getElem_toArray, List.getElem_cons_zero, List.getElem_cons_succ, List.setIfInBounds_toArray, List.set_cons_zero, List.set_cons_succ])
    refine wpAnyIn_ready (rs := [0, 2]) (by kernel_rfl) (by simp) ?_
    refine AllReadyIn.cons rfl (fun K hK => ?_) ?_
    · rw [if_pos (by rfl)]
      unfold Oper.wpIn
      go_simp
      refine hK _ _ ?_
      clear hK K
      refine wpAnyIn_ready (rs := [2]) (by kernel_rfl) (by simp) ?_
      refine AllReadyIn.cons rfl (fun K hK => ?_) ?_
      · rw [if_pos (by rfl)]
        unfold Oper.wpIn
        go_simp
        refine hK _ _ ?_
        clear hK K
        (refine' wpAnyIn_take (i := 4) rfl rfl (by kernel_rfl) (by kernel_rfl) (by kernel_rfl) (fun _ _ _ h => h) ⟨Or.inl ⟨by rfl, ?_⟩, fun _ => by rfl⟩ ?_; rotate_left; (· (intro wq; go_simp; first | done | with_reducible rfl)); simp only [Act.put, List.getElem_toArray, List.getElem_cons_zero, List.getElem_cons_succ, List.setIfInBounds_toArray, List.set_cons_zero, List.set_cons_succ])
        (refine' wpAnyIn_take (i := 5) rfl rfl (by kernel_rfl) (by kernel_rfl) (by kernel_rfl) (fun _ _ _ h => h) ⟨Or.inl ⟨by rfl, ?_⟩, fun _ => by rfl⟩ ?_; rotate_left; (· (intro wq; go_simp; first | done | with_reducible rfl)); simp only [Act.put, List.getElem_toArray, List.getElem_cons_zero, List.getElem_cons_succ, List.setIfInBounds_toArray, List.set_cons_zero, List.set_cons_succ])
        refine wpAnyIn_ready (rs := [6]) (by kernel_rfl) (by simp) ?_
        refine AllReadyIn.cons rfl (fun K hK => ?_) ?_
        · rw [if_pos (by rfl)]
          unfold Oper.wpIn
          go_simp
          rw [e3.out]
          refine ⟨trivial, (fun h => by cases h), ?_⟩
          refine (callsIn_wide.2 (tz_calls Cv R hCv hR _ hTd)).mono ?_
          rintro e w3 ⟨rfl, rfl⟩
          refine hK _ _ ?_
          clear hK K
          refine wpAnyIn_ready (rs := [7]) (by kernel_rfl) (by simp) ?_
          refine AllReadyIn.cons rfl (fun K hK => ?_) ?_
          · rw [if_pos (by rfl)]
            unfold Oper.wpIn
            go_simp
            refine ⟨(fun h => by cases h), (roundIn_any hRd).mono ?_⟩
            rintro e W3 (⟨rfl, hJ3, hk3⟩ | ⟨rfl, hJx3, hk3⟩)
            · refine hK _ _ ?_
              clear hK K
              (refine' wpAnyIn_take (i := 8) rfl rfl (by kernel_rfl) (by kernel_rfl) (by kernel_rfl) (fun _ _ _ h => h) ⟨Or.inl ⟨by rfl, ?_⟩, fun _ => by rfl⟩ ?_; rotate_left; (· (intro wq; go_simp; first | done | with_reducible rfl)); simp only [Act.put, List.getElem_toArray, List.getElem_cons_zero, List.getElem_cons_succ, List.setIfInBounds_toArray, List.set_cons_zero, List.set_cons_succ])
              refine wpAnyIn_done (by kernel_rfl) ?_ _
              have a2 := hk3.at ay (.inl hB)
              have a3 := hk3.at axi (.inr rfl)
              have hT3 := hTd.below hk3.1 h0
              have hs3 : w1.heap.size ≤ W3.heap.size := Nat.le_trans hzi hk3.2.1
              have kf : KeepsFrom w1.heap.size Wi W3 := KeepsFrom.trans ((KeepsOthers.drew Wi).from _) (hk3.from (by omega))
              have hbl : Below n0 Wi W3 := ((Below.refl _ Wi).drew).trans hk3.1
              clear hy hRd hJi hrec hk3
              rename_i Kz hKz
              refine hKz _ _ ?_
              gi_wp2
              exact ⟨kf, hbl, hJ3, a2, a3, hT3, hs3⟩
            · refine hK _ _ ?_
              clear hK K
              (refine' wpAnyIn_take (i := 8) rfl rfl (by kernel_rfl) (by kernel_rfl) (by kernel_rfl) (fun _ _ _ h => h) ⟨Or.inl ⟨by rfl, ?_⟩, fun _ => by rfl⟩ ?_; rotate_left; (· (intro wq; go_simp; first | done | with_reducible rfl)); simp only [Act.put, List.getElem_toArray, List.getElem_cons_zero, List.getElem_cons_succ, List.setIfInBounds_toArray, List.set_cons_zero, List.set_cons_succ])
              refine wpAnyIn_done (by kernel_rfl) ?_ _
              have kf : KeepsFrom w1.heap.size Wi W3 := KeepsFrom.trans ((KeepsOthers.drew Wi).from _) (hk3.from (by omega))
              clear hy hRd hJi hrec hk3
              rename_i Kz hKz
              refine hKz _ _ ?_
              gi_wp2
              exact ⟨kf, rfl, hJx3⟩
          · exact AllReadyIn.nil
        · exact AllReadyIn.nil
      · exact AllReadyIn.nil
    · refine AllReadyIn.cons rfl (fun K hK => ?_) ?_
      · rw [if_pos (by rfl)]
        unfold Oper.wpIn
        go_simp
        refine hK _ _ ?_
        clear hK K
        (refine' wpAnyIn_take (i := 4) rfl rfl (by kernel_rfl) (by kernel_rfl) (by kernel_rfl) (fun _ _ _ h => h) ⟨Or.inl ⟨by rfl, ?_⟩, fun _ => by rfl⟩ ?_; rotate_left; (· (intro wq; go_simp; first | done | with_reducible rfl)); simp only [Act.put, List.getElem_toArray, List.getElem_cons_zero, List.getElem_cons_succ, List.setIfInBounds_toArray, List.set_cons_zero, List.set_cons_succ])
        (refine' wpAnyIn_take (i := 5) rfl rfl (by kernel_rfl) (by kernel_rfl) (by kernel_rfl) (fun _ _ _ h => h) ⟨Or.inl ⟨by rfl, ?_⟩, fun _ => by rfl⟩ ?_; rotate_left; (· (intro wq; go_simp; first | done | with_reducible rfl)); simp only [Act.put, List.getElem_toArray, List.getElem_cons_zero, List.getElem_cons_succ, List.setIfInBounds_toArray, List.set_cons_zero, List.set_cons_succ])
        refine wpAnyIn_ready (rs := [0, 6]) (by kernel_rfl) (by simp) ?_
        refine AllReadyIn.cons rfl (fun K hK => ?_) ?_
        · rw [if_pos (by rfl)]
          unfold Oper.wpIn
          go_simp
          refine hK _ _ ?_
          clear hK K
          refine wpAnyIn_ready (rs := [6]) (by kernel_rfl) (by simp) ?_
          refine AllReadyIn.cons rfl (fun K hK => ?_) ?_
          · rw [if_pos (by rfl)]
            unfold Oper.wpIn
            go_simp
            rw [e3.out]
            refine ⟨trivial, (fun h => by cases h), ?_⟩
            refine (callsIn_wide.2 (tz_calls Cv R hCv hR _ hTd)).mono ?_
            rintro e w3 ⟨rfl, rfl⟩
            refine hK _ _ ?_
            clear hK K
            refine wpAnyIn_ready (rs := [7]) (by kernel_rfl) (by simp) ?_
            refine AllReadyIn.cons rfl (fun K hK => ?_) ?_
            · rw [if_pos (by rfl)]
              unfold Oper.wpIn
              go_simp
              refine ⟨(fun h => by cases h), (roundIn_any hRd).mono ?_⟩
              rintro e W3 (⟨rfl, hJ3, hk3⟩ | ⟨rfl, hJx3, hk3⟩)
              · refine hK _ _ ?_
                clear hK K
                (refine' wpAnyIn_take (i := 8) rfl rfl (by kernel_rfl) (by kernel_rfl) (by kernel_rfl) (fun _ _ _ h => h) ⟨Or.inl ⟨by rfl, ?_⟩, fun _ => by rfl⟩ ?_; rotate_left; (· (intro wq; go_simp; first | done | with_reducible rfl)); simp only [Act.put, List.getElem_toArray, List.getElem_cons_zero, List.getElem_cons_succ, List.setIfInBounds_toArray, List.set_cons_zero, List.set_cons_succ])
                refine wpAnyIn_done (by kernel_rfl) ?_ _
                have a2 := hk3.at ay (.inl hB)
                have a3 := hk3.at axi (.inr rfl)
                have hT3 := hTd.below hk3.1 h0
                have hs3 : w1.heap.size ≤ W3.heap.size := Nat.le_trans hzi hk3.2.1
                have kf : KeepsFrom w1.heap.size Wi W3 := KeepsFrom.trans ((KeepsOthers.drew Wi).from _) (hk3.from (by omega))
                have hbl : Below n0 Wi W3 := ((Below.refl _ Wi).drew).trans hk3.1
                clear hy hRd hJi hrec hk3
                rename_i Kz hKz
                refine hKz _ _ ?_
                gi_wp2
                exact ⟨kf, hbl, hJ3, a2, a3, hT3, hs3⟩
              · refine hK _ _ ?_
                clear hK K
                (refine' wpAnyIn_take (i := 8) rfl rfl (by kernel_rfl) (by kernel_rfl) (by kernel_rfl) (fun _ _ _ h => h) ⟨Or.inl ⟨by rfl, ?_⟩, fun _ => by rfl⟩ ?_; rotate_left; (· (intro wq; go_simp; first | done | with_reducible rfl)); simp only [Act.put, List.getElem_toArray, List.getElem_cons_zero, List.getElem_cons_succ, List.setIfInBounds_toArray, List.set_cons_zero, List.set_cons_succ])
                refine wpAnyIn_done (by kernel_rfl) ?_ _
                have kf : KeepsFrom w1.heap.size Wi W3 := KeepsFrom.trans ((KeepsOthers.drew Wi).from _) (hk3.from (by omega))
                clear hy hRd hJi hrec hk3
                rename_i Kz hKz
                refine hKz _ _ ?_
                gi_wp2
                exact ⟨kf, rfl, hJx3⟩
            · exact AllReadyIn.nil
          · exact AllReadyIn.nil
        · refine AllReadyIn.cons rfl (fun K hK => ?_) ?_
          · rw [if_pos (by rfl)]
            unfold Oper.wpIn
            go_simp
            rw [e3.out]
            refine ⟨trivial, (fun h => by cases h), ?_⟩
            refine (callsIn_wide.2 (tz_calls Cv R hCv hR _ hTd)).mono ?_
            rintro e w3 ⟨rfl, rfl⟩
            refine hK _ _ ?_
            clear hK K
            refine wpAnyIn_ready (rs := [0]) (by kernel_rfl) (by simp) ?_
            refine AllReadyIn.cons rfl (fun K hK => ?_) ?_
            · rw [if_pos (by rfl)]
              unfold Oper.wpIn
              go_simp
              refine hK _ _ ?_
              clear hK K
              refine wpAnyIn_ready (rs := [7]) (by kernel_rfl) (by simp) ?_
              refine AllReadyIn.cons rfl (fun K hK => ?_) ?_
              · rw [if_pos (by rfl)]
                unfold Oper.wpIn
                go_simp
                refine ⟨(fun h => by cases h), (roundIn_any hRd).mono ?_⟩
                rintro e W3 (⟨rfl, hJ3, hk3⟩ | ⟨rfl, hJx3, hk3⟩)
                · refine hK _ _ ?_
                  clear hK K
                  (refine' wpAnyIn_take (i := 8) rfl rfl (by kernel_rfl) (by kernel_rfl) (by kernel_rfl) (fun _ _ _ h => h) ⟨Or.inl ⟨by rfl, ?_⟩, fun _ => by rfl⟩ ?_; rotate_left; (· (intro wq; go_simp; first | done | with_reducible rfl)); simp only [Act.put, List.getElem_toArray, List.getElem_cons_zero, List.getElem_cons_succ, List.setIfInBounds_toArray, List.set_cons_zero, List.set_cons_succ])
                  refine wpAnyIn_done (by kernel_rfl) ?_ _
                  have a2 := hk3.at ay (.inl hB)
                  have a3 := hk3.at axi (.inr rfl)
                  have hT3 := hTd.below hk3.1 h0
                  have hs3 : w1.heap.size ≤ W3.heap.size := Nat.le_trans hzi hk3.2.1
                  have kf : KeepsFrom w1.heap.size Wi W3 := KeepsFrom.trans ((KeepsOthers.drew Wi).from _) (hk3.from (by omega))
                  have hbl : Below n0 Wi W3 := ((Below.refl _ Wi).drew).trans hk3.1
                  clear hy hRd hJi hrec hk3
                  rename_i Kz hKz
                  refine hKz _ _ ?_
                  gi_wp2
                  exact ⟨kf, hbl, hJ3, a2, a3, hT3, hs3⟩
                · refine hK _ _ ?_
                  clear hK K
                  (refine' wpAnyIn_take (i := 8) rfl rfl (by kernel_rfl) (by kernel_rfl) (by kernel_rfl) (fun _ _ _ h => h) ⟨Or.inl ⟨by rfl, ?_⟩, fun _ => by rfl⟩ ?_; rotate_left; (· (intro wq; go_simp; first | done | with_reducible rfl)); simp only [Act.put, List.getElem_toArray, List.getElem_cons_zero, List.getElem_cons_succ, List.setIfInBounds_toArray, List.set_cons_zero, List.set_cons_succ])
                  refine wpAnyIn_done (by kernel_rfl) ?_ _
                  have kf : KeepsFrom w1.heap.size Wi W3 := KeepsFrom.trans ((KeepsOthers.drew Wi).from _) (hk3.from (by omega))
                  clear hy hRd hJi hrec hk3
                  rename_i Kz hKz
                  refine hKz _ _ ?_
                  gi_wp2
                  exact ⟨kf, rfl, hJx3⟩
              · exact AllReadyIn.nil
            · exact AllReadyIn.nil
          · exact AllReadyIn.nil
      · exact AllReadyIn.nil
  case done =>
    rintro D xs Wi hD hxs ⟨hJi, -, -, -, -⟩ hK
    clear hY
    gi_wp2
    refine ⟨by simp, .inl ⟨_, _, rfl, run_takeDeferred hK, ?_⟩⟩
    refine ⟨_, results_none rfl _ _ _, ⟨_, rfl⟩, .inl ⟨xs, hxs.trans hst.out.symm, hJ.putObj _ hJi (by omega) hK rfl⟩⟩
  case stop =>
    rintro D c pre Wi hD hpre ⟨rfl, hX⟩ hK
    clear hY
    gi_wp2
    refine ⟨by simp, .inl ⟨_, _, rfl, run_takeDeferred hK, ?_⟩⟩
    refine ⟨_, results_none rfl _ _ _, ⟨_, rfl⟩, .inr ⟨pre, by rw [hst.out]; exact hpre, hJx.putObj _ hX (by omega) hK rfl⟩⟩

theorem runs_held (n : Nat) (hn : 1 ≤ n) (Bx n0 B x : Nat) (hx : x < 18446744073709551616) (h0 : 0 < n0) (w : World) (hn0 : n0 ≤ w.heap.size) (hw0 : 0 < w.heap.size) (hB : B ≤ w.heap.size + 1 + 1) (hT : Tab w) (ax : At w Bx #[.int .u64 (x : Int)] 46) :
    SeqHeld n Tryd.prog 66 #[.pointer (some ⟨Bx, 0, none⟩)] (encR x) (Held n0 B Bx) (fun xs => xs = starts x) (fun pre => pre <+: starts x) (starts x).length w :=
  fun l J Jx W hW hJ hJx hY hJ0 hsz => runs1_in n hn l Bx n0 B x hx h0 J Jx W (Nat.le_trans hn0 hW.size) (Nat.le_trans hB hsz) hJ hJx hY (hT.below hW hw0) (ax.keptAll hW) hJ0

theorem runs_calls (x : Nat) (w : World) :
    Calls Tryd.prog 59 #[.int .u64 (x : Int)] w fun e w' => e = .returned (.func (.func 66) #[] #[.pointer (some ⟨w.heap.size, 0, none⟩)]) ∧ w' = w.alloc (.cells #[.int .u64 (x : Int)] 46) := by
  have hmf : ∀ (fn : Fn) (first cap : Array Value) (w : World), (Instr.makeFunc fn first cap).run Tryd.prog w = .ok (.func fn first cap) w := fun _ _ _ _ => rfl
  go_enter Tryd.func59, Tryd.ntmps59
  go_wp2
  go_ret
  exact ⟨rfl, rfl⟩
end Go.Proofs.YtmjmcdoanolelaaDoor
