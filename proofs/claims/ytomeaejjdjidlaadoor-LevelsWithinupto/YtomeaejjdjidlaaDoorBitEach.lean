/-
  What bitmap.Each tells: the places of the set bits of a row, one behind the other. It ranges over words.Each, word by word, and calls its yield in those rounds.
-/
import Derived.Test.YtomeaejjdjidlaaDoorWordsB
import Derived.Test.YtomeaejjdjidlaaDoorMarksKit
import Derived.Test.YtomeaejjdjidlaaDoorHeldKit2
import Derived.Test.YtomeaejjdjidlaaDoorBitsA
import Derived.Test.YtomeaejjdjidlaaDoorBitsB
namespace Go.Proofs.YtomeaejjdjidlaaDoor
open Go.RowKit Go.Shelf

attribute [local go_sem] Oper.semAt_some

theorem Marks.heldS {Safe : Nat → World → Prop} {B U n0 B' Bx : Nat} {ds : List Deferred} {W W' : World} (h : Marks B U ds W) (hh : HeldS Safe n0 B' Bx W W') (hB : B' ≤ B) : Marks B U ds W' :=
  h.of (fun D h1 _ h3 => (hh.2.2.1 D _ (by omega) rfl h3).trans h3.symm)
/-- What is told of a place. -/
def encBm (p : Nat) : Array Value := #[.int .i64 ((p % 4611686018427387904 : Nat) : Int)]
theorem RoundIn.inRound {F : Fence} {n : Nat} {P : Program} {l : Nat} {f : FuncId} {tmps : Array Value} {assign body : Code} {w : World} {R : Ending → World → Prop} (l2 : Nat) (h : RoundIn F n P l f tmps assign body w R) : RoundIn (F.inRound l2) n P l f tmps assign body w R := h

/-- The places of one word more. -/
theorem placesB_word (X : Nat → Nat) (j : Nat) : placesB X (64 * (j + 1)) = placesB X (64 * j) ++ (places (X j)).map (fun p => 64 * j + p % 64) := by
  have key : ∀ r, r ≤ 64 → placesB X (64 * j + r) = placesB X (64 * j) ++ (below (X j) r).map (fun p => 64 * j + p % 64) := by
    intro r
    induction r with
    | zero => intro _; simp [below]
    | succ r ih =>
      intro hr
      rw [← Nat.add_assoc]
      have hb := bitAt_word X j r (by omega)
      cases hbit : (X j).testBit r
      · rw [hbit] at hb
        rw [placesB_f hb, below_f hbit, ih (by omega)]
      · rw [hbit] at hb
        rw [placesB_t hb, below_t hbit, ih (by omega), List.map_append, List.append_assoc]
        simp [Nat.mod_eq_of_lt (show r < 64 by omega)]
  have := key 64 (Nat.le_refl _)
  rw [show 64 * (j + 1) = 64 * j + 64 by omega, this]
  rfl

theorem placesB_prefix (X : Nat → Nat) {a b : Nat} (h : a ≤ b) : placesB X a <+: placesB X b := by
  obtain ⟨d, rfl⟩ : ∃ d, b = a + d := ⟨b - a, by omega⟩
  clear h
  induction d with
  | zero => exact List.prefix_refl _
  | succ d ih =>
    refine ih.trans ?_
    rw [← Nat.add_assoc]
    cases hb : bitAt X (a + d)
    · rw [placesB_f hb]; exact List.prefix_refl _
    · rw [placesB_t hb]; exact List.prefix_append _ _

set_option maxRecDepth 100000 in
set_option maxHeartbeats 2000000 in
theorem each1B_in (Safe : Nat → World → Prop) (n : Nat) (hn : 1 ≤ n) (l Bl n0 B g k cap : Nat) (ao : Option Addr) (cur : Array Value) (t : TypeId) (X : Nat → Nat) (hk : k ≤ 17592186044416) (h0 : 0 < n0) (J Jx : List Nat → World → Prop) (W : World) (hn0 : n0 ≤ W.heap.size) (hB : B ≤ W.heap.size)
    (hJ : OwnFrom W.heap.size J) (hJx : OwnFrom W.heap.size Jx) (hSo : OwnFrom W.heap.size Safe) (hSn : ∀ pre A, J pre A → (∀ o, Safe A.heap.size (A.alloc o)) ∧ Safe g A)
    (hY : ∀ pre p W1, J pre W1 → pre.length < (placesB X (64 * k)).length → YieldAt Fence.wide (n - 1) Tryd.prog l (encBm p) W1 fun e W' =>
      (e = .returned (.bool true) ∧ J (pre ++ [p]) W' ∧ HeldS Safe n0 B g W1 W') ∨ (e = .returned (.bool false) ∧ Jx (pre ++ [p]) W' ∧ HeldS Safe n0 B g W1 W'))
    (hT : Tab W) (al : At W Bl #[.slice ao k cap] 32) (hX : ∀ j, j < k → X j < 18446744073709551616 ∧ ao = some ⟨g, 0, none⟩ ∧ cur[j]? = some (.int .u64 ((X j : Nat) : Int))) (ag : At W g cur t) (hJ0 : J [] W) :
    CallsIn Fence.wide n Tryd.prog 67 #[.func (.yield l) #[] #[], .pointer (some ⟨Bl, 0, none⟩)] W fun e W' => (∃ v, e = .returned v) ∧
      ((∃ xs, xs = placesB X (64 * k) ∧ J xs W') ∨ (∃ pre, pre <+: placesB X (64 * k) ∧ Jx pre W')) := by
  have cl := (al.alloc (.cells #[.func (.yield l) #[] #[]] 61)).cell 0
  simp only [List.getElem?_toArray, List.getElem?_cons_zero] at cl
  have ay := At.new W #[.func (.yield l) #[] #[]] 61
  have ag1 := ag.alloc (.cells #[.func (.yield l) #[] #[]] 61)
  have hT1 : Tab (W.alloc (.cells #[.func (.yield l) #[] #[]] 61)) := hT.below ((Below.refl n0 W).alloc hn0 _) h0
  have hJ1 := hJ.alloc (.cells #[.func (.yield l) #[] #[]] 61) hJ0
  have sy1 := (hSn _ _ hJ0).1 (.cells #[.func (.yield l) #[] #[]] 61)
  have sg1 := hSo.alloc (.cells #[.func (.yield l) #[] #[]] 61) (hSn _ _ hJ0).2
  refine callsIn_of_wp_marks Tryd.func67 rfl trivial ?_ rfl
  simp only [Tryd.ntmps67, List.size_toArray, List.length_cons, List.length_nil, Nat.reduceAdd, Nat.reduceSub, Array.replicate_succ, Array.replicate_zero, List.push_toArray, List.append_toArray, List.nil_append, List.cons_append]
  gi_wp2
  have hz : (W.alloc (.cells #[.func (.yield l) #[] #[]] 61)).heap.size = W.heap.size + 1 := by simp
  have hzh := hz
  generalize W.alloc (.cells #[.func (.yield l) #[] #[]] 61) = W1 at *
  refine wpIn_loop (fun a Wi => ∃ (j : Nat) (ds : List Deferred) (u3 u4 u9 u10 u11 u12 u13 u14 u23 : Value), a = { tmps := #[.func (.yield l) #[] #[], .pointer (some ⟨Bl, 0, none⟩), .pointer (some ⟨W.heap.size, 0, none⟩), u3, u4, undef, .slice ao k cap, .int .i64 (k : Int), .int .i64 (j : Int), u9, u10, u11, u12, u13, u14, undef, undef, undef, undef, undef, undef, undef, undef, u23], defers := ds } ∧
      j ≤ k ∧ J (placesB X (64 * j)) Wi ∧ At Wi W.heap.size #[.func (.yield l) #[] #[]] 61 ∧ At Wi g cur t ∧ Tab Wi ∧ W.heap.size + 1 ≤ Wi.heap.size ∧ Marks W.heap.size Wi.heap.size ds Wi ∧ Safe W.heap.size Wi ∧ Safe g Wi) (fun a _ => k - (intOf (a.tmps.getD 8 undef)).toNat) ?_ ?_
  · exact ⟨0, [], undef, undef, undef, undef, undef, undef, undef, undef, undef, rfl, Nat.zero_le _, hJ1, ay, ag1, hT1, by omega, trivial, sy1, sg1⟩
  rintro a Wi ⟨j, ds, u3, u4, u9, u10, u11, u12, u13, u14, u23, rfl, hj, hJi, ayi, agi, hTi, hzi, hmi, syi, sgi⟩
  by_cases hlt : j < k
  · obtain ⟨hx, rfl, hcu⟩ := hX j hlt
    obtain ⟨x, hx'⟩ : ∃ x, Hid (X j = x) := ⟨_, rfl⟩
    rw [hx'.out] at hx hcu
    have d1 := agi.cell j
    rw [hcu] at d1
    clear hcu
    gi_wp2_with fail
    refine ⟨trivial, ?_⟩
    refine (callsIn_wide.2 (each_calls x _)).mono ?_
    rintro e w1 ⟨rfl, hw1⟩
    have aj : At w1 Wi.heap.size #[.int .i64 (j : Int)] 3 := by rw [hw1]; exact (At.new Wi _ _).alloc _
    have ax : At w1 (Wi.heap.size + 1) #[.int .u64 (x : Int)] 22 := by
      have h := At.new (Wi.alloc (.cells #[.int .i64 (j : Int)] 3)) #[.int .u64 (x : Int)] 22
      rw [hw1]; simpa using h
    have sjw : Safe Wi.heap.size w1 := by rw [hw1]; exact hSo.alloc _ ((hSn _ _ hJi).1 _)
    have syw : Safe W.heap.size w1 := by rw [hw1]; exact hSo.alloc _ (hSo.alloc _ syi)
    have sgw : Safe g w1 := by rw [hw1]; exact hSo.alloc _ (hSo.alloc _ sgi)
    have hbw : Below Wi.heap.size Wi w1 := by rw [hw1]; repeat (first | with_reducible exact Below.refl _ _ | with_reducible refine Below.setCell ?_ (by first | (simp; done) | (simp; omega)) _ | with_reducible refine below_drewN ?_ _ | with_reducible refine Below.alloc ?_ (by first | (simp; done) | (simp; omega)) _ | with_reducible refine Below.drew ?_)
    have ayw := ayi.keptAll hbw
    have agw := agi.keptAll hbw
    have hzw : w1.heap.size = Wi.heap.size + 1 + 1 := by rw [hw1]; simp
    have hJw : J (placesB X (64 * j)) w1 := by rw [hw1]; exact hJ.alloc _ (hJ.alloc _ hJi)
    have hTw : Tab w1 := hTi.below hbw (by omega)
    have hmw : Marks W.heap.size Wi.heap.size ds w1 := hmi.below hbw (Nat.le_refl _)
    clear hw1
    have hpl : Hid (placesB X (64 * (j + 1)) = placesB X (64 * j) ++ (places x).map (fun p => 64 * j + p % 64)) := by show _ = _; rw [placesB_word, hx'.out]
    have hcs : Hid (cntB X (64 * (j + 1)) ≤ cntB X (64 * k)) := cntB_mono X (by omega)
    gi_wp2_with fail
    refine wpIn_rangeFunc_ownH rfl (n := n) hn (gf := 30) (lb := #[.pointer (some ⟨Wi.heap.size + 1, 0, none⟩)]) rfl trivial (enters_of Tryd.func30 (by kernel_rfl) rfl)
      (each_stops (n - 1) (Wi.heap.size + 1) n0 x hx h0 w1 ax.lt (by omega) hTw (ax.cell 0)) belowK_t (belowK_b (by omega)) (Below.refl _ _) (fun _ => rfl)
      (fun pre Wz => J (placesB X (64 * j) ++ pre.map (fun p => 64 * j + p % 64)) Wz ∧ At Wz W.heap.size #[.func (.yield l) #[] #[]] 61 ∧ At Wz Wi.heap.size #[.int .i64 (j : Int)] 3 ∧ At Wz g cur t ∧ Tab Wz ∧ w1.heap.size ≤ Wz.heap.size ∧ Marks W.heap.size Wi.heap.size ds Wz ∧ Safe W.heap.size Wz ∧ Safe Wi.heap.size Wz ∧ Safe g Wz)
      (fun c pre Wz => c = .ret ∧ Jx (placesB X (64 * j) ++ pre.map (fun p => 64 * j + p % 64)) Wz ∧ Marks W.heap.size Wi.heap.size ds Wz)
      (fun s Y Z row ⟨h1, h2, h3, h4, h5, h6, h7, h8, h9, h10⟩ hg hr => ⟨hJ _ Y Z row h1 hg (fun r e => ⟨by have := (hr r e).1; omega, (hr r e).2⟩), h2.own hg (fun r e => (hr r e).2), h3.own hg (fun r e => (hr r e).2), h4.own hg (fun r e => (hr r e).2),
        fun j hj => (World.cell?_of_block (w := Y) (hg.block 0 (by omega) (fun e => by have := (hr 0 e.symm).1; omega))).trans (h5 j hj), Nat.le_trans h6 hg.size, h7.own hg (fun r e => by have := (hr r e).1; omega), hSo _ Y Z row h8 hg (fun r e => ⟨by have := (hr r e).1; omega, (hr r e).2⟩), hSo _ Y Z row h9 hg (fun r e => ⟨by have := (hr r e).1; omega, (hr r e).2⟩), hSo _ Y Z row h10 hg (fun r e => ⟨by have := (hr r e).1; omega, (hr r e).2⟩)⟩)
      (fun c s Y Z row ⟨h1, h2, h3⟩ hg hr => ⟨h1, hJx _ Y Z row h2 hg (fun r e => ⟨by have := (hr r e).1; omega, (hr r e).2⟩), h3.own hg (fun r e => by have := (hr r e).1; omega)⟩)
      ⟨by simpa using hJw, ayw, aj, agw, hTw, Nat.le_refl _, hmw, syw, sjw, sgw⟩
      (fun p a' _ => ∃ q : Nat, Hid (q = p % 64) ∧ a' = { tmps := #[.func (.yield l) #[] #[], .pointer (some ⟨Bl, 0, none⟩), .pointer (some ⟨W.heap.size, 0, none⟩), .pointer (some ⟨Wi.heap.size, 0, none⟩), .int .u64 (x : Int), .int .i64 (q : Int), .slice (some ⟨g, 0, none⟩) k cap, .int .i64 (k : Int), .int .i64 (j : Int), .bool true, .int .i64 (j : Int), .pointer (some ⟨g, j, none⟩), .int .u64 (x : Int), .int .u64 (x : Int), .func (.func 30) #[] #[.pointer (some ⟨Wi.heap.size + 1, 0, none⟩)], .int .i64 (q : Int), undef, undef, undef, undef, undef, undef, undef, u23], defers := [] })
      (fun _ _ _ _ _ _ hs _ _ => hs) ?assign ?body ?done ?stop
    case assign =>
      intro l2 pre p Wz K hI hK
      obtain ⟨q, hq⟩ : ∃ q, Hid (q = p % 64) := ⟨_, rfl⟩
      rw [encE, ← hq.out]
      have hK' := fun a' => hK a' Wz (KeepsFrom.refl _ _) (Below.refl _ _) hI
      clear hK
      gi_wp2
      exact ⟨q, hq, rfl⟩
    case body =>
      rintro l2 pre p a' Wz hll ⟨rec, hrec⟩ ⟨hJz, ayz, ajz, agz, hTz, hzz, hmz, syz, sjz, sgz⟩ ⟨q, hq, rfl⟩ hltp
      have hq64 : q < 64 := by rw [hq.out]; exact Nat.mod_lt _ (by decide)
      have cy := ayz.cell 0
      have cj := ajz.cell 0
      simp only [List.getElem?_toArray, List.getElem?_cons_zero] at cy cj
      have hlen : (placesB X (64 * j) ++ pre.map (fun p => 64 * j + p % 64)).length < (placesB X (64 * k)).length := by
        have h1 := congrArg List.length hpl.out
        rw [List.length_append, List.length_map, placesB_len, placesB_len] at h1
        rw [List.length_append, List.length_map, placesB_len, placesB_len]
        have := hcs.out
        omega
      obtain ⟨fn, tmps, assign, body, hy, hRd⟩ := hY _ (64 * j + q) Wz hJz hlen
      have hv : (64 * j + q) % 4611686018427387904 = 64 * j + q := Nat.mod_eq_of_lt (by omega)
      rw [show encBm (64 * j + q) = #[.int .i64 (64 * (j : Int) + (q : Int))] by rw [encBm, hv]; simp] at hy
      have happ : Hid (placesB X (64 * j) ++ pre.map (fun p => 64 * j + p % 64) ++ [64 * j + q] = placesB X (64 * j) ++ (pre ++ [p]).map (fun p => 64 * j + p % 64)) := by show _ = _; rw [List.map_append, ← List.append_assoc, hq.out]; rfl
      have ew : IntKind.i64.wrap (64 * (j : Int)) = 64 * (j : Int) := by rw [IntKind.wrap_i64]; omega
      clear hY hlen hltp hv
      gi_wp2_with fail
      refine ⟨(fun h => by cases h), ?_⟩
      refine (RoundIn.inRound l2 (roundIn_any hRd)).mono ?_
      rintro e W3 (⟨rfl, hJ3, hk3⟩ | ⟨rfl, hJx3, hk3⟩)
      · obtain ⟨a2, s2⟩ := hk3.2.2.2 _ _ _ (.inl hB) syz ayz
        obtain ⟨a3, s3⟩ := hk3.2.2.2 _ _ _ (.inl (by omega)) sjz ajz
        obtain ⟨a4, s4⟩ := hk3.2.2.2 _ _ _ (.inr rfl) sgz agz
        have hT3 := hTz.below hk3.1 h0
        have hs3 : w1.heap.size ≤ W3.heap.size := Nat.le_trans hzz hk3.2.1
        have hm3 := hmz.heldS hk3 hB
        have kf : KeepsFrom w1.heap.size Wz W3 := hk3.from (by omega)
        have hbl := hk3.1
        rw [happ.out] at hJ3
        clear hy hRd hJz hrec hk3
        gi_wp2
        exact ⟨kf, hbl, hJ3, a2, a3, a4, hT3, hs3, hm3, s2, s3, s4⟩
      · have kf : KeepsFrom w1.heap.size Wz W3 := hk3.from (by omega)
        have hm3 := hmz.heldS hk3 hB
        rw [happ.out] at hJx3
        clear hy hRd hJz hrec hk3
        gi_wp2
        exact ⟨kf, rfl, hJx3, hm3⟩
    case done =>
      rintro D xs Wz hD hxs ⟨hJz, ayz, ajz, agz, hTz, hzz, hmz, syz, -, sgz⟩ hK
      have hDl := (Array.getElem?_eq_some_iff.1 hK).1
      have hJn : J (placesB X (64 * (j + 1))) Wz := by rw [hpl.out, ← hxs]; exact hJz
      have hmn : Marks W.heap.size Wz.heap.size ({ target := .collected D, args := #[] } :: ds) Wz := ⟨D, rfl, by omega, hDl, hK, hmz.up (by omega)⟩
      clear hY hJz hmz hxs
      gi_wp2
      refine ⟨⟨j + 1, _, _, _, _, _, _, _, _, _, _, by rw [show (((j + 1 : Nat)) : Int) = (j : Int) + 1 by simp], by omega, hJn, ayz, agz, hTz, by omega, hmn, syz, sgz⟩, ?_⟩
      simp [intOf]; omega
    case stop =>
      rintro D c pre Wz hD hpre ⟨rfl, hX', hmz⟩ hK
      have hmn : Marks W.heap.size (D + 1) ({ target := .collected D, args := #[] } :: ds) Wz := ⟨D, rfl, by omega, by omega, hK, hmz.up (by omega)⟩
      have hprf : placesB X (64 * j) ++ pre.map (fun p => 64 * j + p % 64) <+: placesB X (64 * k) := by
        have h1 : placesB X (64 * j) ++ pre.map (fun p => 64 * j + p % 64) <+: placesB X (64 * (j + 1)) := by
          rw [hpl.out]
          obtain ⟨t, ht⟩ := hpre
          exact ⟨t.map (fun p => 64 * j + p % 64), by rw [List.append_assoc, ← List.map_append, ht]⟩
        refine h1.trans ?_
        exact placesB_prefix X (by omega)
      have hprf' := hprf
      clear hY
      gi_wp2
      exact leaves_marks (s := placesB X (64 * j) ++ pre.map (fun p => 64 * j + p % 64)) hJx (fun W' hj => ⟨_, results_none rfl _ _ _, ⟨_, rfl⟩, .inr ⟨_, hprf', hj⟩⟩) _ _ _ hmn hX'
  · obtain rfl : j = k := by omega
    clear hY
    gi_wp2
    exact leaves_marks (s := placesB X (64 * j)) hJ (fun W' hj => ⟨_, results_none rfl _ _ _, ⟨_, rfl⟩, .inl ⟨_, rfl, hj⟩⟩) _ _ _ hmi hJi
end Go.Proofs.YtomeaejjdjidlaaDoor
