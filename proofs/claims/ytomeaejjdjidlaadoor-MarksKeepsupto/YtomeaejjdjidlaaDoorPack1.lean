/-
  Texts of mine that others lean on, one behind the other.
-/
import Derived.Test.YtomeaejjdjidlaaDoorKitA
import Derived.Test.YtomeaejjdjidlaaDoorWordsB
import Derived.Test.YtomeaejjdjidlaaDoorHeldKit2
import Derived.Test.YtomeaejjdjidlaaDoorBitsA
import Derived.Test.YtomeaejjdjidlaaDoorBitsB
import Derived.Test.YtomeaejjdjidlaaDoorQuoB
import Derived.Test.YtomeaejjdjidlaaDoorBitsC
import Derived.Lib.Builder
import Derived.Lib.AppendStr
import Derived.Lib.UnsafeStr
import Derived.Laws.Externs
import Derived.Shelf.RegionOpenPlain
import Derived.Test.YtomeaejjdjidlaaDoorMarkMath
import Derived.Test.YtomeaejjdjidlaaDoorMkBlanks
/-
  The marks that ranges over functions leave behind in a loop, and how a call ends that bears them.
-/
namespace Go.Proofs.YtomeaejjdjidlaaDoor
open Go.RowKit Go.Shelf

/-- Marks of ranges over functions, the latest first: their blocks lie from B on and below U, each below the one ahead. -/
def Marks (B : Nat) : Nat → List Deferred → World → Prop
  | _, [], _ => True
  | U, d :: ds, W => ∃ D, d = { target := .collected D, args := #[] } ∧ B ≤ D ∧ D < U ∧ W.heap[D]? = some (.deferred (some [])) ∧ Marks B D ds W
theorem Marks.of {B : Nat} {W W' : World} : ∀ {ds : List Deferred} {U : Nat}, Marks B U ds W → (∀ D, B ≤ D → D < U → W.heap[D]? = some (.deferred (some [])) → W'.heap[D]? = W.heap[D]?) → Marks B U ds W'
  | [], _, _, _ => trivial
  | _ :: _, _, ⟨D, h1, h2, h3, h4, h5⟩, h => ⟨D, h1, h2, h3, (h D h2 h3 h4).trans h4, h5.of (fun D' a b c => h D' a (by omega) c)⟩
theorem Marks.up {B U U' : Nat} {ds : List Deferred} {W : World} (h : Marks B U ds W) (hU : U ≤ U') : Marks B U' ds W := by
  cases ds with
  | nil => trivial
  | cons d ds =>
    obtain ⟨D, h1, h2, h3, h4, h5⟩ := h
    exact ⟨D, h1, h2, by omega, h4, h5⟩
theorem Marks.below {B U n : Nat} {ds : List Deferred} {W W' : World} (h : Marks B U ds W) (hb : Below n W W') (hn : U ≤ n) : Marks B U ds W' := h.of (fun D _ h2 _ => hb.block D (by omega))
theorem Marks.own {B U : Nat} {ds : List Deferred} {W W' : World} {row : Option Nat} (h : Marks B U ds W) (hg : W.grownBy W' row) (hr : ∀ r, row = some r → U ≤ r) : Marks B U ds W' :=
  h.of (fun D _ h2 h3 => hg.block D (Array.getElem?_eq_some_iff.1 h3).1 (fun e => by have := hr D e.symm; omega))
theorem Marks.held {B U n0 B' Bx : Nat} {ds : List Deferred} {W W' : World} (h : Marks B U ds W) (hh : Held n0 B' Bx W W') (hB : B' ≤ B) : Marks B U ds W' :=
  h.of (fun D h1 _ h3 => (hh.2.2 D _ (.inl (by omega)) h3).trans h3.symm)

/-- A call that bears such marks ends as it would without them. -/
theorem leaves_marks {F : Fence} {n : Nat} {P : Program} {fn : Func} {tmps : Array Value} {R : Ending → World → Prop} {β : Type} {s : β} {J : β → World → Prop} {B : Nat} (hJ : OwnFrom B J)
    (hend : ∀ W', J s W' → LeavesInM F n P fn tmps R [] .returning W') : ∀ (ds : List Deferred) (U : Nat) (W : World), Marks B U ds W → J s W → LeavesInM F n P fn tmps R ds .returning W
  | [], _, W, _, hj => hend W hj
  | _ :: ds, _, W, ⟨D, h1, h2, _, h4, h5⟩, hj => by
    subst h1
    refine ⟨by simp, .inl ⟨D, _, rfl, run_takeDeferred h4, ?_⟩⟩
    refine leaves_marks hJ hend ds D _ (h5.of (fun D' _ b _ => World.putObj_heap_other (by omega))) (hJ.putObj _ hj h2 h4 rfl)
end Go.Proofs.YtomeaejjdjidlaaDoor

/-
  What bitmap.Each tells: the places of the set bits of a row, one behind the other. It ranges over words.Each, word by word, and calls its yield in those rounds.
-/
namespace Go.Proofs.YtomeaejjdjidlaaDoor
open Go.RowKit Go.Shelf

attribute [local go_sem] Oper.semAt_some

theorem Marks.heldS {Safe : Nat → World → Prop} {B U n0 B' Bx : Nat} {ds : List Deferred} {W W' : World} (h : Marks B U ds W) (hh : HeldS Safe n0 B' Bx W W') (hB : B' ≤ B) : Marks B U ds W' :=
  h.of (fun D h1 _ h3 => (hh.2.2.1 D _ (by omega) rfl h3).trans h3.symm)
/-- What is told of a place. -/
def encBm (p : Nat) : Array Value := #[.int .i64 ((p % 4611686018427387904 : Nat) : Int)]
theorem RoundIn.inRound {F : Fence} {n : Nat} {P : Program} {l : Nat} {f : FuncId} {tmps : Array Value} {assign body : Code} {w : World} {R : Ending → World → Prop} (l2 : Nat) (h : RoundIn F n P l f tmps assign body w R) : RoundIn (F.inRound l2) n P l f tmps assign body w R := h

/-- The places of one word more. -/
theorem placesB_word (X : Nat → Nat) (j : Nat) : placesB X (64 * (j + 1)) = placesB X (64 * j) ++ (places (X j)).map (fun p => 64 * j + p % 64) := by
  have key : ∀ r, r ≤ 64 → placesB X (64 * j + r) = placesB X (64 * j) ++ (below (X j) r).map (fun p => 64 * j + p % 64) := by
    intro r
    induction r with
    | zero => intro _; simp [below]
    | succ r ih =>
      intro hr
      rw [← Nat.add_assoc]
      have hb := bitAt_word X j r (by omega)
      cases hbit : (X j).testBit r
      · rw [hbit] at hb
        rw [placesB_f hb, below_f hbit, ih (by omega)]
      · rw [hbit] at hb
        rw [placesB_t hb, below_t hbit, ih (by omega), List.map_append, List.append_assoc]
        simp [Nat.mod_eq_of_lt (show r < 64 by omega)]
  have := key 64 (Nat.le_refl _)
  rw [show 64 * (j + 1) = 64 * j + 64 by omega, this]
  rfl

theorem placesB_prefix (X : Nat → Nat) {a b : Nat} (h : a ≤ b) : placesB X a <+: placesB X b := by
  obtain ⟨d, rfl⟩ : ∃ d, b = a + d := ⟨b - a, by omega⟩
  clear h
  induction d with
  | zero => exact List.prefix_refl _
  | succ d ih =>
    refine ih.trans ?_
    rw [← Nat.add_assoc]
    cases hb : bitAt X (a + d)
    · rw [placesB_f hb]; exact List.prefix_refl _
    · rw [placesB_t hb]; exact List.prefix_append _ _

set_option maxRecDepth 100000 in
set_option maxHeartbeats 2000000 in
theorem each1B_in (Safe : Nat → World → Prop) (n : Nat) (hn : 1 ≤ n) (l Bl n0 B g k cap : Nat) (ao : Option Addr) (cur : Array Value) (t : TypeId) (X : Nat → Nat) (hk : k ≤ 17592186044416) (h0 : 0 < n0) (J Jx : List Nat → World → Prop) (W : World) (hn0 : n0 ≤ W.heap.size) (hB : B ≤ W.heap.size)
    (hJ : OwnFrom W.heap.size J) (hJx : OwnFrom W.heap.size Jx) (hSo : OwnFrom W.heap.size Safe) (hSn : ∀ pre A, J pre A → (∀ o, Safe A.heap.size (A.alloc o)) ∧ Safe g A)
    (hY : ∀ pre p W1, J pre W1 → pre.length < (placesB X (64 * k)).length → YieldAt Fence.wide (n - 1) Tryd.prog l (encBm p) W1 fun e W' =>
      (e = .returned (.bool true) ∧ J (pre ++ [p]) W' ∧ HeldS Safe n0 B g W1 W') ∨ (e = .returned (.bool false) ∧ Jx (pre ++ [p]) W' ∧ HeldS Safe n0 B g W1 W'))
    (hT : Tab W) (al : At W Bl #[.slice ao k cap] 32) (hX : ∀ j, j < k → X j < 18446744073709551616 ∧ ao = some ⟨g, 0, none⟩ ∧ cur[j]? = some (.int .u64 ((X j : Nat) : Int))) (ag : At W g cur t) (hJ0 : J [] W) :
    CallsIn Fence.wide n Tryd.prog 67 #[.func (.yield l) #[] #[], .pointer (some ⟨Bl, 0, none⟩)] W fun e W' => (∃ v, e = .returned v) ∧
      ((∃ xs, xs = placesB X (64 * k) ∧ J xs W') ∨ (∃ pre, pre <+: placesB X (64 * k) ∧ Jx pre W')) := by
  have cl := (al.alloc (.cells #[.func (.yield l) #[] #[]] 61)).cell 0
  simp only [List.getElem?_toArray, List.getElem?_cons_zero] at cl
  have ay := At.new W #[.func (.yield l) #[] #[]] 61
  have ag1 := ag.alloc (.cells #[.func (.yield l) #[] #[]] 61)
  have hT1 : Tab (W.alloc (.cells #[.func (.yield l) #[] #[]] 61)) := hT.below ((Below.refl n0 W).alloc hn0 _) h0
  have hJ1 := hJ.alloc (.cells #[.func (.yield l) #[] #[]] 61) hJ0
  have sy1 := (hSn _ _ hJ0).1 (.cells #[.func (.yield l) #[] #[]] 61)
  have sg1 := hSo.alloc (.cells #[.func (.yield l) #[] #[]] 61) (hSn _ _ hJ0).2
  refine callsIn_of_wp_marks Tryd.func67 rfl trivial ?_ rfl
  simp only [Tryd.ntmps67, List.size_toArray, List.length_cons, List.length_nil, Nat.reduceAdd, Nat.reduceSub, Array.replicate_succ, Array.replicate_zero, List.push_toArray, List.append_toArray, List.nil_append, List.cons_append]
  gi_wp2
  have hz : (W.alloc (.cells #[.func (.yield l) #[] #[]] 61)).heap.size = W.heap.size + 1 := by simp
  have hzh := hz
  generalize W.alloc (.cells #[.func (.yield l) #[] #[]] 61) = W1 at *
  refine wpIn_loop (fun a Wi => ∃ (j : Nat) (ds : List Deferred) (u3 u4 u9 u10 u11 u12 u13 u14 u23 : Value), a = { tmps := #[.func (.yield l) #[] #[], .pointer (some ⟨Bl, 0, none⟩), .pointer (some ⟨W.heap.size, 0, none⟩), u3, u4, undef, .slice ao k cap, .int .i64 (k : Int), .int .i64 (j : Int), u9, u10, u11, u12, u13, u14, undef, undef, undef, undef, undef, undef, undef, undef, u23], defers := ds } ∧
      j ≤ k ∧ J (placesB X (64 * j)) Wi ∧ At Wi W.heap.size #[.func (.yield l) #[] #[]] 61 ∧ At Wi g cur t ∧ Tab Wi ∧ W.heap.size + 1 ≤ Wi.heap.size ∧ Marks W.heap.size Wi.heap.size ds Wi ∧ Safe W.heap.size Wi ∧ Safe g Wi) (fun a _ => k - (intOf (a.tmps.getD 8 undef)).toNat) ?_ ?_
  · exact ⟨0, [], undef, undef, undef, undef, undef, undef, undef, undef, undef, rfl, Nat.zero_le _, hJ1, ay, ag1, hT1, by omega, trivial, sy1, sg1⟩
  rintro a Wi ⟨j, ds, u3, u4, u9, u10, u11, u12, u13, u14, u23, rfl, hj, hJi, ayi, agi, hTi, hzi, hmi, syi, sgi⟩
  by_cases hlt : j < k
  · obtain ⟨hx, rfl, hcu⟩ := hX j hlt
    obtain ⟨x, hx'⟩ : ∃ x, Hid (X j = x) := ⟨_, rfl⟩
    rw [hx'.out] at hx hcu
    have d1 := agi.cell j
    rw [hcu] at d1
    clear hcu
    gi_wp2_with fail
    refine ⟨trivial, ?_⟩
    refine (callsIn_wide.2 (each_calls x _)).mono ?_
    rintro e w1 ⟨rfl, hw1⟩
    have aj : At w1 Wi.heap.size #[.int .i64 (j : Int)] 3 := by rw [hw1]; exact (At.new Wi _ _).alloc _
    have ax : At w1 (Wi.heap.size + 1) #[.int .u64 (x : Int)] 22 := by
      have h := At.new (Wi.alloc (.cells #[.int .i64 (j : Int)] 3)) #[.int .u64 (x : Int)] 22
      rw [hw1]; simpa using h
    have sjw : Safe Wi.heap.size w1 := by rw [hw1]; exact hSo.alloc _ ((hSn _ _ hJi).1 _)
    have syw : Safe W.heap.size w1 := by rw [hw1]; exact hSo.alloc _ (hSo.alloc _ syi)
    have sgw : Safe g w1 := by rw [hw1]; exact hSo.alloc _ (hSo.alloc _ sgi)
    have hbw : Below Wi.heap.size Wi w1 := by rw [hw1]; repeat (first | with_reducible exact Below.refl _ _ | with_reducible refine Below.setCell ?_ (by first | (simp; done) | (simp; omega)) _ | with_reducible refine below_drewN ?_ _ | with_reducible refine Below.alloc ?_ (by first | (simp; done) | (simp; omega)) _ | with_reducible refine Below.drew ?_)
    have ayw := ayi.keptAll hbw
    have agw := agi.keptAll hbw
    have hzw : w1.heap.size = Wi.heap.size + 1 + 1 := by rw [hw1]; simp
    have hJw : J (placesB X (64 * j)) w1 := by rw [hw1]; exact hJ.alloc _ (hJ.alloc _ hJi)
    have hTw : Tab w1 := hTi.below hbw (by omega)
    have hmw : Marks W.heap.size Wi.heap.size ds w1 := hmi.below hbw (Nat.le_refl _)
    clear hw1
    have hpl : Hid (placesB X (64 * (j + 1)) = placesB X (64 * j) ++ (places x).map (fun p => 64 * j + p % 64)) := by show _ = _; rw [placesB_word, hx'.out]
    have hcs : Hid (cntB X (64 * (j + 1)) ≤ cntB X (64 * k)) := cntB_mono X (by omega)
    gi_wp2_with fail
    refine wpIn_rangeFunc_ownH rfl (n := n) hn (gf := 30) (lb := #[.pointer (some ⟨Wi.heap.size + 1, 0, none⟩)]) rfl trivial (enters_of Tryd.func30 (by kernel_rfl) rfl)
      (each_stops (n - 1) (Wi.heap.size + 1) n0 x hx h0 w1 ax.lt (by omega) hTw (ax.cell 0)) belowK_t (belowK_b (by omega)) (Below.refl _ _) (fun _ => rfl)
      (fun pre Wz => J (placesB X (64 * j) ++ pre.map (fun p => 64 * j + p % 64)) Wz ∧ At Wz W.heap.size #[.func (.yield l) #[] #[]] 61 ∧ At Wz Wi.heap.size #[.int .i64 (j : Int)] 3 ∧ At Wz g cur t ∧ Tab Wz ∧ w1.heap.size ≤ Wz.heap.size ∧ Marks W.heap.size Wi.heap.size ds Wz ∧ Safe W.heap.size Wz ∧ Safe Wi.heap.size Wz ∧ Safe g Wz)
      (fun c pre Wz => c = .ret ∧ Jx (placesB X (64 * j) ++ pre.map (fun p => 64 * j + p % 64)) Wz ∧ Marks W.heap.size Wi.heap.size ds Wz)
      (fun s Y Z row ⟨h1, h2, h3, h4, h5, h6, h7, h8, h9, h10⟩ hg hr => ⟨hJ _ Y Z row h1 hg (fun r e => ⟨by have := (hr r e).1; omega, (hr r e).2⟩), h2.own hg (fun r e => (hr r e).2), h3.own hg (fun r e => (hr r e).2), h4.own hg (fun r e => (hr r e).2),
        fun j hj => (World.cell?_of_block (w := Y) (hg.block 0 (by omega) (fun e => by have := (hr 0 e.symm).1; omega))).trans (h5 j hj), Nat.le_trans h6 hg.size, h7.own hg (fun r e => by have := (hr r e).1; omega), hSo _ Y Z row h8 hg (fun r e => ⟨by have := (hr r e).1; omega, (hr r e).2⟩), hSo _ Y Z row h9 hg (fun r e => ⟨by have := (hr r e).1; omega, (hr r e).2⟩), hSo _ Y Z row h10 hg (fun r e => ⟨by have := (hr r e).1; omega, (hr r e).2⟩)⟩)
      (fun c s Y Z row ⟨h1, h2, h3⟩ hg hr => ⟨h1, hJx _ Y Z row h2 hg (fun r e => ⟨by have := (hr r e).1; omega, (hr r e).2⟩), h3.own hg (fun r e => by have := (hr r e).1; omega)⟩)
      ⟨by simpa using hJw, ayw, aj, agw, hTw, Nat.le_refl _, hmw, syw, sjw, sgw⟩
      (fun p a' _ => ∃ q : Nat, Hid (q = p % 64) ∧ a' = { tmps := #[.func (.yield l) #[] #[], .pointer (some ⟨Bl, 0, none⟩), .pointer (some ⟨W.heap.size, 0, none⟩), .pointer (some ⟨Wi.heap.size, 0, none⟩), .int .u64 (x : Int), .int .i64 (q : Int), .slice (some ⟨g, 0, none⟩) k cap, .int .i64 (k : Int), .int .i64 (j : Int), .bool true, .int .i64 (j : Int), .pointer (some ⟨g, j, none⟩), .int .u64 (x : Int), .int .u64 (x : Int), .func (.func 30) #[] #[.pointer (some ⟨Wi.heap.size + 1, 0, none⟩)], .int .i64 (q : Int), undef, undef, undef, undef, undef, undef, undef, u23], defers := [] })
      (fun _ _ _ _ _ _ hs _ _ => hs) ?assign ?body ?done ?stop
    case assign =>
      intro l2 pre p Wz K hI hK
      obtain ⟨q, hq⟩ : ∃ q, Hid (q = p % 64) := ⟨_, rfl⟩
      rw [encE, ← hq.out]
      have hK' := fun a' => hK a' Wz (KeepsFrom.refl _ _) (Below.refl _ _) hI
      clear hK
      gi_wp2
      exact ⟨q, hq, rfl⟩
    case body =>
      rintro l2 pre p a' Wz hll ⟨rec, hrec⟩ ⟨hJz, ayz, ajz, agz, hTz, hzz, hmz, syz, sjz, sgz⟩ ⟨q, hq, rfl⟩ hltp
      have hq64 : q < 64 := by rw [hq.out]; exact Nat.mod_lt _ (by decide)
      have cy := ayz.cell 0
      have cj := ajz.cell 0
      simp only [List.getElem?_toArray, List.getElem?_cons_zero] at cy cj
      have hlen : (placesB X (64 * j) ++ pre.map (fun p => 64 * j + p % 64)).length < (placesB X (64 * k)).length := by
        have h1 := congrArg List.length hpl.out
        rw [List.length_append, List.length_map, placesB_len, placesB_len] at h1
        rw [List.length_append, List.length_map, placesB_len, placesB_len]
        have := hcs.out
        omega
      obtain ⟨fn, tmps, assign, body, hy, hRd⟩ := hY _ (64 * j + q) Wz hJz hlen
      have hv : (64 * j + q) % 4611686018427387904 = 64 * j + q := Nat.mod_eq_of_lt (by omega)
      rw [show encBm (64 * j + q) = #[.int .i64 (64 * (j : Int) + (q : Int))] by rw [encBm, hv]; simp] at hy
      have happ : Hid (placesB X (64 * j) ++ pre.map (fun p => 64 * j + p % 64) ++ [64 * j + q] = placesB X (64 * j) ++ (pre ++ [p]).map (fun p => 64 * j + p % 64)) := by show _ = _; rw [List.map_append, ← List.append_assoc, hq.out]; rfl
      have ew : IntKind.i64.wrap (64 * (j : Int)) = 64 * (j : Int) := by rw [IntKind.wrap_i64]; omega
      clear hY hlen hltp hv
      gi_wp2_with fail
      refine ⟨(fun h => by cases h), ?_⟩
      refine (RoundIn.inRound l2 (roundIn_any hRd)).mono ?_
      rintro e W3 (⟨rfl, hJ3, hk3⟩ | ⟨rfl, hJx3, hk3⟩)
      · obtain ⟨a2, s2⟩ := hk3.2.2.2 _ _ _ (.inl hB) syz ayz
        obtain ⟨a3, s3⟩ := hk3.2.2.2 _ _ _ (.inl (by omega)) sjz ajz
        obtain ⟨a4, s4⟩ := hk3.2.2.2 _ _ _ (.inr rfl) sgz agz
        have hT3 := hTz.below hk3.1 h0
        have hs3 : w1.heap.size ≤ W3.heap.size := Nat.le_trans hzz hk3.2.1
        have hm3 := hmz.heldS hk3 hB
        have kf : KeepsFrom w1.heap.size Wz W3 := hk3.from (by omega)
        have hbl := hk3.1
        rw [happ.out] at hJ3
        clear hy hRd hJz hrec hk3
        gi_wp2
        exact ⟨kf, hbl, hJ3, a2, a3, a4, hT3, hs3, hm3, s2, s3, s4⟩
      · have kf : KeepsFrom w1.heap.size Wz W3 := hk3.from (by omega)
        have hm3 := hmz.heldS hk3 hB
        rw [happ.out] at hJx3
        clear hy hRd hJz hrec hk3
        gi_wp2
        exact ⟨kf, rfl, hJx3, hm3⟩
    case done =>
      rintro D xs Wz hD hxs ⟨hJz, ayz, ajz, agz, hTz, hzz, hmz, syz, -, sgz⟩ hK
      have hDl := (Array.getElem?_eq_some_iff.1 hK).1
      have hJn : J (placesB X (64 * (j + 1))) Wz := by rw [hpl.out, ← hxs]; exact hJz
      have hmn : Marks W.heap.size Wz.heap.size ({ target := .collected D, args := #[] } :: ds) Wz := ⟨D, rfl, by omega, hDl, hK, hmz.up (by omega)⟩
      clear hY hJz hmz hxs
      gi_wp2
      refine ⟨⟨j + 1, _, _, _, _, _, _, _, _, _, _, by rw [show (((j + 1 : Nat)) : Int) = (j : Int) + 1 by simp], by omega, hJn, ayz, agz, hTz, by omega, hmn, syz, sgz⟩, ?_⟩
      simp [intOf]; omega
    case stop =>
      rintro D c pre Wz hD hpre ⟨rfl, hX', hmz⟩ hK
      have hmn : Marks W.heap.size (D + 1) ({ target := .collected D, args := #[] } :: ds) Wz := ⟨D, rfl, by omega, by omega, hK, hmz.up (by omega)⟩
      have hprf : placesB X (64 * j) ++ pre.map (fun p => 64 * j + p % 64) <+: placesB X (64 * k) := by
        have h1 : placesB X (64 * j) ++ pre.map (fun p => 64 * j + p % 64) <+: placesB X (64 * (j + 1)) := by
          rw [hpl.out]
          obtain ⟨t, ht⟩ := hpre
          exact ⟨t.map (fun p => 64 * j + p % 64), by rw [List.append_assoc, ← List.map_append, ht]⟩
        refine h1.trans ?_
        exact placesB_prefix X (by omega)
      have hprf' := hprf
      clear hY
      gi_wp2
      exact leaves_marks (s := placesB X (64 * j) ++ pre.map (fun p => 64 * j + p % 64)) hJx (fun W' hj => ⟨_, results_none rfl _ _ _, ⟨_, rfl⟩, .inr ⟨_, hprf', hj⟩⟩) _ _ _ hmn hX'
  · obtain rfl : j = k := by omega
    clear hY
    gi_wp2
    exact leaves_marks (s := placesB X (64 * j)) hJ (fun W' hj => ⟨_, results_none rfl _ _ _, ⟨_, rfl⟩, .inl ⟨_, rfl, hj⟩⟩) _ _ _ hmi hJi
end Go.Proofs.YtomeaejjdjidlaaDoor

/-
  What words.Each tells, number by number; it asks of a round that the table of math/bits stays.
-/
namespace Go.Proofs.YtomeaejjdjidlaaDoor
open Go.RowKit Go.Shelf

attribute [local go_sem] Oper.semAt_some

/-- What is told of the place number r. -/
def plc (x r : Nat) : Nat := (places x).getD r 0
def encP (x r : Nat) : Array Value := encE (plc x r)
/-- The table stays. -/
def KeepTab (W W' : World) : Prop := Tab W → Tab W'
theorem KeepTab.trans {A B C : World} (h1 : KeepTab A B) (h2 : KeepTab B C) : KeepTab A C := fun h => h2 (h1 h)
theorem keepTab_b {w : World} (h0 : 0 < w.heap.size) (W : World) (l : Nat) (r r' : Loop) (hl : w.heap.size ≤ l) (_ : W.heap[l]? = some (.loop r)) : KeepTab W (W.putObj l (.loop r')) := fun h j hj =>
  (World.cell?_of_block (w := W) (World.putObj_heap_other (by first | (show (0 : Nat) ≠ l; omega) | (show l ≠ (0 : Nat); omega)))).trans (h j hj)
theorem KeepTab.of_below {n : Nat} {W W' : World} (hb : Below n W W') (h0 : 0 < n) : KeepTab W W' := fun h => h.below hb h0

set_option maxRecDepth 100000 in
set_option maxHeartbeats 4000000 in
theorem each1_t (n : Nat) (l Bx x : Nat) (hx : x < 18446744073709551616) (J Jx : Nat → World → Prop) (W : World)
    (hY : ∀ r W1, J r W1 → r < (places x).length → YieldAt Fence.wide (n - 1) Tryd.prog l (encP x r) W1 fun e W' =>
      (e = .returned (.bool true) ∧ J (r + 1) W' ∧ KeepTab W1 W') ∨ (e = .returned (.bool false) ∧ Jx (r + 1) W'))
    (hT : Tab W) (cx : W.cell? ⟨Bx, 0, none⟩ = some (.int .u64 (x : Int))) (hJ0 : J 0 W) :
    CallsIn Fence.wide n Tryd.prog 30 #[.func (.yield l) #[] #[], .pointer (some ⟨Bx, 0, none⟩)] W fun e W' => (∃ v, e = .returned v) ∧
      (J (places x).length W' ∨ ∃ r, r ≤ (places x).length ∧ Jx r W') := by
  refine callsIn_of_wp Tryd.func30 rfl trivial ?_ rfl
  simp only [Tryd.ntmps30, List.size_toArray, List.length_cons, List.length_nil, Nat.reduceAdd, Nat.reduceSub, Array.replicate_succ, Array.replicate_zero, List.push_toArray, List.append_toArray, List.nil_append, List.cons_append]
  gi_wp2
  gi_loopw [3] (fun r wr => ∃ (R : Nat) (pre : List Nat), Hid (places x = pre ++ places R) ∧ R < 18446744073709551616 ∧ r = .int .u64 (R : Int) ∧ J pre.length wr ∧ Tab wr) (fun r _ => (places (intOf r).toNat).length)
  case atStart => exact ⟨x, [], rfl, hx, rfl, hJ0, hT⟩
  case round =>
    obtain ⟨R, pre, hR, hRl, rfl, hJr, hTr⟩ := hrel
    by_cases hz : R = 0
    · subst hz
      have hpx : Hid (places x = pre) := hR.out.trans (by rw [places_zero, List.append_nil])
      clear hR
      gi_wp2
      go_end0
      exact ⟨⟨_, rfl⟩, .inl (by rw [hpx.out]; exact hJr)⟩
    · have hst := places_step hz hRl
      obtain ⟨R', hR'⟩ : ∃ R', R &&& (R - 1) = R' := ⟨_, rfl⟩
      obtain ⟨K, hK⟩ : ∃ K, Hid (Lib.ctz 64 R = K) := ⟨_, rfl⟩
      have hKl : K < 64 := hK.out ▸ ctz_lt hz hRl
      rw [hR', hK.out] at hst
      have hRl' : R' < 18446744073709551616 := hR' ▸ Nat.lt_of_le_of_lt Nat.and_le_left hRl
      have e1 : bits BinOp.and IntKind.u64 (R : Int) (IntKind.u64.wrap ((R : Int) - 1)) = (R' : Int) := by
        rw [show IntKind.u64.wrap ((R : Int) - 1) = ((R - 1 : Nat) : Int) by rw [IntKind.wrap_u64]; omega, bits_and_u64_nat _ _ hRl (by omega), hR']
      have e2 : bits BinOp.and IntKind.u64 (R : Int) ((R : Int) - 1) = (R' : Int) := by
        rw [show ((R : Int) - 1) = ((R - 1 : Nat) : Int) by omega, bits_and_u64_nat _ _ hRl (by omega), hR']
      have hz' : ((R : Int) != 0) = true := by simp; omega
      have hpl : pre.length < (places x).length := by rw [hR.out, hst]; simp
      have hst' : Hid (places R = K :: places R') := hst
      obtain ⟨fn, tmps, assign, body, hy, hRd⟩ := hY pre.length wr hJr hpl
      rw [show encP x pre.length = #[.int .i64 (K : Int)] by rw [encP, plc, hR.out, hst]; simp [encE, List.getD, Nat.mod_eq_of_lt hKl]] at hy
      have hle : Hid (pre.length + 1 ≤ (places x).length) := hpl
      clear hst hR' hY hpl
      gi_wp2_with fail
      refine ⟨trivial, (fun h => by cases h), ?_⟩
      refine (callsIn_wide.2 (tz_calls R K hRl hK _ hTr)).mono ?_
      rintro e w1 ⟨rfl, rfl⟩
      gi_wp2
      refine ⟨(fun h => by cases h), ?_⟩
      refine hRd.mono ?_
      rintro e W3 (⟨rfl, hJ3, hk3⟩ | ⟨rfl, hJx3⟩)
      · have hT3 := hk3 hTr
        clear hy hRd
        gi_wp2
        go_roundw
        case rel => exact ⟨R', pre ++ [K], by show _ = _; rw [hR.out, hst'.out]; simp, hRl', rfl, by simpa using hJ3, hT3⟩
        case measure => simp [intOf, hst'.out]
      · clear hy hRd
        gi_wp2
        refine bodyPost_ret (results_none rfl _ _ _) rfl ?_
        exact ⟨⟨_, rfl⟩, .inr ⟨_, hle.out, hJx3⟩⟩

theorem each_tell (n : Nat) (Bx x : Nat) (hx : x < 18446744073709551616) (w : World) (hw0 : 0 < w.heap.size) (hT : Tab w) (ax : At w Bx #[.int .u64 (x : Int)] 22) :
    SeqTell n Tryd.prog 30 #[.pointer (some ⟨Bx, 0, none⟩)] (encP x) KeepTab (places x).length w :=
  fun l J Jx W hW _ _ hY hJ0 => each1_t n l Bx x hx J Jx W hY (hT.below hW hw0) ((ax.keptAll hW).cell 0) hJ0
end Go.Proofs.YtomeaejjdjidlaaDoor

/-
  What slices.Clone and bitmap.Each answer; the sequence, as a caller takes it.
-/
namespace Go.Proofs.YtomeaejjdjidlaaDoor
open Go.RowKit Go.Shelf

theorem infoCW : (Tryd.prog.info? 22).map (fun i => (i.zero, i.size, i.bytes)) = some (some (.int .u64 0), 1, 8) := by kernel_rfl
theorem wl_len (Y : Nat → Nat) (i : Nat) : (wl Y i).length = i := by simp [wl]

set_option maxRecDepth 10000 in
set_option maxHeartbeats 1000000 in
theorem clone_calls (ao : Option Addr) (k cap : Nat) (X : Nat → Nat) (hk : k ≤ 17592186044416) (hz : ao = none → k = 0 ∧ cap = 0) (w : World) (hW : Wds w ao k X) :
    Calls Tryd.prog 66 #[.slice ao k cap] w fun e w' => ∃ v, e = .returned v ∧ w'.ownsRow w.heap.size 22 1 v k (wl X k) ∧ Below w.heap.size w w' := by
  obtain ⟨i0, hi, hz0, hz1, hz2⟩ := info_parts infoCW
  have hnn : ∀ (w : World), Sem.run Tryd.prog (binOp BinOp.eql 32 (.slice none 0 0) (.slice none 0 0)) w = .ok (.bool true) w := fun _ => by rfl
  have hns : ∀ (a : Addr) (k c : Nat) (w : World), Sem.run Tryd.prog (binOp BinOp.eql 32 (.slice (some a) k c) (.slice none 0 0)) w = .ok (.bool false) w := fun _ _ _ _ => by rfl
  go_enter Tryd.func66, Tryd.ntmps66
  cases ao with
  | none =>
    obtain ⟨rfl, rfl⟩ := hz rfl
    go_wp2
    go_ret
    exact ⟨_, rfl, World.ownsRow_nil _ _ _ _, Below.refl _ _⟩
  | some a =>
    have hcells : Hid (∀ (j : Nat) (u : Value), (wl X k)[j]? = some u → (w.alloc (.cells #[] 22)).cell? (a.add j) = some u) := fun j u hu => by
      have hj : j < k := by have := (List.getElem?_eq_some_iff.1 hu).1; rwa [wl_len] at this
      obtain ⟨_, b, off, he, hc⟩ := hW j hj
      cases he
      have e : u = .int .u64 ((X j : Nat) : Int) := by simp [wl, hj] at hu; exact hu.symm
      rw [e, show (⟨b, off, none⟩ : Addr).add j = ⟨b, off + j, none⟩ by by_cases h : j = 0 <;> simp [Addr.add, h]]
      exact (((Below.refl _ w).alloc (Nat.le_refl _) _).cell (p := ⟨b, off + j, none⟩) (cell_block hc)).trans hc
    have hone : Hid (∀ u ∈ wl X k, u.oneCell' = true) := fun u hu => by
      simp only [wl, List.mem_map] at hu
      obtain ⟨j, _, rfl⟩ := hu
      rfl
    have hown : Hid ((w.alloc (.cells #[] 22)).ownsRow w.heap.size 22 1 (.slice (some ⟨w.heap.size, 0, none⟩) 0 0) 0 []) := ⟨rfl, .inr ⟨w.heap.size, 0, #[], rfl, Nat.le_refl _, At.new w _ _, Nat.le_refl _, Nat.zero_le _, rfl, rfl⟩⟩
    clear hW hz
    go_wp2_with (first
      | (at_builtin; refine wpList_append_own _ rfl _ _ 32 rfl w.heap.size 22 i0 (.int .u64 0) 1 8 Tryd.underlying32 hi hz0 hz1 hz2 rfl (by decide) _ _ _ rfl hown.out a k cap (wl X k) rfl (by rw [wl_len, Nat.mul_one]) hcells.out hone.out (by unfold maxLen; omega) (by omega) (by simp) ?_)
      | go_in)
    intro v' w1 hown1 hgrow _
    have hb' : Below w.heap.size w w1 := ((Below.refl _ w).alloc (Nat.le_refl _) _).grown hgrow (by simp) (fun b e => by cases e; exact Nat.le_refl _)
    have hown1' := (show Hid (w1.ownsRow w.heap.size 22 1 v' k (wl X k)) from (by first | exact hown1 | (have h := hown1; simp at h; exact h)))
    clear hown1 hgrow hown hone hcells
    go_wp2
    go_ret
    exact ⟨_, rfl, hown1'.out, hb'⟩

/-- A sequence that tells the places L: its variable lies in block Bl, its words in block g. -/
def SeqB (W : World) (Bl g : Nat) (L : List Nat) : Prop :=
  ∃ (ao : Option Addr) (k cap : Nat) (cur : Array Value) (t : TypeId) (Y : Nat → Nat), At W Bl #[.slice ao k cap] 32 ∧ At W g cur t ∧ k ≤ 17592186044416 ∧ L = placesB Y (64 * k) ∧
    ∀ j, j < k → Y j < 18446744073709551616 ∧ ao = some ⟨g, 0, none⟩ ∧ cur[j]? = some (.int .u64 ((Y j : Nat) : Int))
theorem SeqB.kept {W W' : World} {Bl g : Nat} {L : List Nat} (h : SeqB W Bl g L) (hb : Below W.heap.size W W') : SeqB W' Bl g L := by
  obtain ⟨ao, k, cap, cur, t, Y, h1, h2, h3⟩ := h
  exact ⟨ao, k, cap, cur, t, Y, h1.keptAll hb, h2.keptAll hb, h3⟩
theorem SeqB.other {W : World} {Bl g : Nat} {L : List Nat} (h : SeqB W Bl g L) {p : Addr} (h1 : Bl ≠ p.block) (h2 : g ≠ p.block) (v : Value) : SeqB (W.setCell p v) Bl g L := by
  obtain ⟨ao, k, cap, cur, t, Y, h3, h4, h5⟩ := h
  exact ⟨ao, k, cap, cur, t, Y, h3.other h1 v, h4.other h2 v, h5⟩
theorem SeqB.own {W W' : World} {Bl g : Nat} {L : List Nat} (h : SeqB W Bl g L) {row : Option Nat} (hg : W.grownBy W' row) (hr : ∀ r, row = some r → ∃ o : Obj, W.heap[r]? = some o ∧ o.isCells = false) : SeqB W' Bl g L := by
  obtain ⟨ao, k, cap, cur, t, Y, h3, h4, h5⟩ := h
  exact ⟨ao, k, cap, cur, t, Y, h3.own hg hr, h4.own hg hr, h5⟩
theorem SeqB.lt {W : World} {Bl g : Nat} {L : List Nat} (h : SeqB W Bl g L) : Bl < W.heap.size ∧ g < W.heap.size := by
  obtain ⟨ao, k, cap, cur, t, Y, h3, h4, h5⟩ := h
  exact ⟨h3.lt, h4.lt⟩
theorem SeqB.len {W : World} {Bl g : Nat} {L : List Nat} (h : SeqB W Bl g L) : L.length ≤ 1125899906842624 := by
  obtain ⟨ao, k, cap, cur, t, Y, h3, h4, h5, rfl, h6⟩ := h
  rw [placesB_len]
  have := cntB_le Y (64 * k)
  omega
/-- The places of a sequence are places of a row. -/
theorem SeqB.small {W : World} {Bl g : Nat} {L : List Nat} (h : SeqB W Bl g L) {p : Nat} (hp : p ∈ L) : p < 1125899906842625 := by
  obtain ⟨ao, k, cap, cur, t, Y, h3, h4, h5, rfl, h6⟩ := h
  have := (placesB_mem hp).1
  omega
theorem seqB_held (n : Nat) (hn : 1 ≤ n) (Bl g n0 B : Nat) (L : List Nat) (h0 : 0 < n0) (w : World) (hn0 : n0 ≤ w.heap.size) (hw0 : 0 < w.heap.size) (hB : B ≤ w.heap.size + 1 + 1) (hT : Tab w) (hs : SeqB w Bl g L) :
    SeqHeld n Tryd.prog 67 #[.pointer (some ⟨Bl, 0, none⟩)] encBm (Held n0 B g) (fun xs => xs = L) (fun pre => pre <+: L) L.length w := by
  obtain ⟨ao, k, cap, cur, t, Y, h1, h2, h3, rfl, h4⟩ := hs
  exact fun l J Jx W hW hJ hJx hY hJ0 hsz => each1B_in (fun _ _ => True) n hn l Bl n0 B g k cap ao cur t Y h3 h0 J Jx W (Nat.le_trans hn0 hW.size) (Nat.le_trans hB hsz) hJ hJx (fun _ _ _ _ _ _ _ => trivial) (fun _ _ _ => ⟨fun _ => trivial, trivial⟩)
    (fun pre p W1 hj hl => by
      obtain ⟨fn, tmps, assign, body, hy, hr⟩ := hY pre p W1 hj hl
      exact ⟨fn, tmps, assign, body, hy, hr.mono (fun e W' h => by
        rcases h with ⟨a, b, c⟩ | ⟨a, b, c⟩
        · exact .inl ⟨a, b, c.safe⟩
        · exact .inr ⟨a, b, c.safe⟩)⟩)
    (hT.below hW hw0) (h1.keptAll hW) h4 (h2.keptAll hW) hJ0
/-- The same, for a caller that has a row of its own. -/
theorem seqB_heldG (Safe : Nat → World → Prop) (n : Nat) (hn : 1 ≤ n) (Bl g n0 B : Nat) (L : List Nat) (h0 : 0 < n0) (w : World) (hn0 : n0 ≤ w.heap.size) (hw0 : 0 < w.heap.size) (hB : B ≤ w.heap.size + 1 + 1) (hSo : OwnFrom w.heap.size Safe) (hT : Tab w) (hs : SeqB w Bl g L) :
    SeqHeldG (fun A => (∀ o, Safe A.heap.size (A.alloc o)) ∧ Safe g A) n Tryd.prog 67 #[.pointer (some ⟨Bl, 0, none⟩)] encBm (HeldS Safe n0 B g) (fun xs => xs = L) (fun pre => pre <+: L) L.length w := by
  obtain ⟨ao, k, cap, cur, t, Y, h1, h2, h3, rfl, h4⟩ := hs
  exact fun l J Jx W hW hJ hJx hSn hY hJ0 hsz => each1B_in Safe n hn l Bl n0 B g k cap ao cur t Y h3 h0 J Jx W (Nat.le_trans hn0 hW.size) (Nat.le_trans hB hsz) hJ hJx (fun s A A' row h hg hr => hSo s A A' row h hg (fun r e => ⟨Nat.le_trans hW.size (hr r e).1, (hr r e).2⟩)) hSn hY
    (hT.below hW hw0) (h1.keptAll hW) h4 (h2.keptAll hW) hJ0

abbrev seqB (Bl : Nat) : Value := .func (.func 67) #[] #[.pointer (some ⟨Bl, 0, none⟩)]

set_option maxRecDepth 10000 in
set_option maxHeartbeats 2000000 in
theorem eachB_calls (n : Int) (ao : Option Addr) (k cap : Nat) (X : Nat → Nat) (N : Nat) (hn : (Lit.int .i64 n).wf = true) (hk : k ≤ 17592186044416) (hz : ao = none → k = 0 ∧ cap = 0) (hE : Hid (Eff n k X N)) (w : World) (hW : Wds w ao k X) :
    Calls Tryd.prog 48 #[bv n ao k cap] w fun e w' => ∃ Bl g, e = .returned (seqB Bl) ∧ w.heap.size ≤ Bl ∧ w.heap.size ≤ g ∧ SeqB w' Bl g (placesB X N) ∧ Below w.heap.size w w' := by
  have hmf : ∀ (fn : Fn) (first cap : Array Value) (w : World), (Instr.makeFunc fn first cap).run Tryd.prog w = .ok (.func fn first cap) w := fun _ _ _ _ => rfl
  obtain ⟨FA, hFA⟩ := formedB n k X
  have hfc : Hid _ := fun (w1 : World) (hb : Below w.heap.size w w1) => formed_calls n ao k cap X FA hn hk hFA w1 (hW.kept hb)
  have hcc : Hid _ := fun (w1 : World) (hb : Below w.heap.size w w1) => clone_calls ao k cap X hk hz w1 (hW.kept hb)
  have hX : Hid _ := fun j hj => (hW j hj).1
  clear hn hW hz
  go_enter Tryd.func48, Tryd.ntmps48
  go_wp2_with fail
  refine Calls.mono (hfc.out _ (by repeat (first | with_reducible exact Below.refl _ _ | with_reducible refine Below.setCell ?_ (by first | (simp; done) | (simp; omega)) _ | with_reducible refine below_drewN ?_ _ | with_reducible refine Below.alloc ?_ (by first | (simp; done) | (simp; omega)) _ | with_reducible refine Below.drew ?_))) ?_
  rintro e w1 ⟨rfl, hb1⟩
  have a1 : At w1 w.heap.size #[.int .i64 n, .slice ao k cap] 34 := ((At.new w _ _).alloc _).keptAll hb1
  have a2 : At w1 (w.heap.size + 1) #[.slice none 0 0] 32 := by
    have := (At.new (w.alloc (.cells #[.int .i64 n, .slice ao k cap] 34)) #[.slice none 0 0] 32).keptAll (by exact hb1)
    simpa using this
  have hB1 : Below w.heap.size w w1 := Below.trans (by repeat (first | with_reducible exact Below.refl _ _ | with_reducible refine Below.setCell ?_ (by first | (simp; done) | (simp; omega)) _ | with_reducible refine below_drewN ?_ _ | with_reducible refine Below.alloc ?_ (by first | (simp; done) | (simp; omega)) _ | with_reducible refine Below.drew ?_)) (hb1.mono (by simp; omega))
  clear hb1 hfc
  cases FA
  · obtain rfl : N = 0 := by
      rcases hE.out with ⟨h, _⟩ | ⟨_, h⟩
      · have h' := hFA.out.1 h; cases h'
      · exact h
    have a2' : Hid (At w1 (w.heap.size + 1) #[.slice none 0 0] 32) := a2
    clear hE hFA hcc a1 a2
    go_wp2
    go_ret
    exact ⟨w.heap.size + 1, w.heap.size + 1, rfl, by omega, by omega, ⟨none, 0, 0, _, _, X, a2'.out, a2'.out, by omega, rfl, fun j hj => by omega⟩, hB1⟩
  · have hform : formed n k X := hFA.out.2 rfl
    obtain ⟨N', rfl⟩ := Int.eq_ofNat_of_zero_le hform.1
    obtain rfl : N = N' := by
      rcases hE.out with ⟨_, h⟩ | ⟨h, _⟩
      · simpa using h
      · exact (h hform).elim
    have hpl : Hid (placesB X N = placesB X (64 * k)) := by
      show _ = _
      have hk' : k = need N := by simpa using hform.2.1
      unfold need at hk'
      have hle : N ≤ 64 * k := by omega
      have h2 := hform.2.2
      clear hk' hform
      obtain ⟨d, hd⟩ : ∃ d, 64 * k = N + d := ⟨64 * k - N, by omega⟩
      rw [hd] at h2 ⊢
      clear hd hle
      induction d with
      | zero => rfl
      | succ d ih => rw [← Nat.add_assoc, placesB_f (h2 (N + d) (by simp) (by omega)), ← ih (fun i h1 h3 => h2 i h1 (by omega))]
    obtain ⟨c0, c1, -, -⟩ := a1.facts
    have a2' : Hid (At w1 (w.heap.size + 1) #[.slice none 0 0] 32) := a2
    have hs1 := a2.lt
    clear hE hFA hform a1 a2
    go_wp2_with fail
    refine Calls.mono (hcc.out _ hB1) ?_
    rintro e w2 ⟨v, rfl, hown, hb2⟩
    have a3 := a2'.out.keptAll hb2
    have c2 := a3.cell 0
    have f2 := a3.frozen 0
    simp only [List.getElem?_toArray, List.getElem?_cons_zero] at c2
    have hB2 : Below w.heap.size w w2 := hB1.trans (hb2.mono hB1.size)
    have hown' : Hid (w2.ownsRow w1.heap.size 22 1 v k (wl X k)) := hown
    have a3' : Hid (At w2 (w.heap.size + 1) #[.slice none 0 0] 32) := a3
    obtain ⟨vo, vc, rfl⟩ := row_slice hown
    clear c0 c1 hown hb2 a3 a2' hcc
    go_wp2
    go_ret
    have a4 := a3'.out.set 0 (.slice vo k vc)
    have hB4 := hB2.setCell (p := ⟨w.heap.size + 1, 0, none⟩) (by show w.heap.size ≤ w.heap.size + 1; omega) (.slice vo k vc)
    rcases hown'.out.2 with ⟨hv, hk0⟩ | ⟨g, cap', cur, hv, hb, hgb, h3, h4, h5, h6⟩
    · cases hv
      clear hk0
      exact ⟨w.heap.size + 1, w.heap.size + 1, rfl, by omega, by omega, ⟨none, 0, 0, _, _, X, a4, a4, by omega, hpl.out, fun j hj => by omega⟩, hB4⟩
    · cases hv
      refine ⟨w.heap.size + 1, g, rfl, by omega, by omega, ⟨_, k, _, cur, 22, X, a4, At.other (p := ⟨w.heap.size + 1, 0, none⟩) hgb (by show g ≠ w.heap.size + 1; omega) _, hk, hpl.out, fun j hj => ⟨hX.out j hj, rfl, ?_⟩⟩, hB4⟩
      have : (cur.toList.take (k * 1))[j]? = (wl X k)[j]? := by rw [h6]
      rw [List.getElem?_take, if_pos (by omega)] at this
      simp only [Array.getElem?_toList] at this
      rw [this]; simp [wl, hj]
end Go.Proofs.YtomeaejjdjidlaaDoor

/-
  A range over an iterator that itself ranges over one: what it tells, number by number; Good is what it asks of the world between two rounds.
-/
namespace Go.Proofs.YtomeaejjdjidlaaDoor
open Go.RowKit Go.Shelf

attribute [local go_sem] Oper.semAt_some

section
variable {P : Program}
/-- An iterator's contract: it tells enc 0, enc 1, .. up to N of them, as long as the yield answers true; Kp is what it asks of each round. -/
def SeqTellG (Good : World → Prop) (n : Nat) (P : Program) (g : Nat) (lb : Array Value) (enc : Nat → Array Value) (Kp : Nat → World → World → Prop) (N : Nat) (w : World) : Prop :=
  ∀ (l : Nat) (J Jx : Nat → World → Prop) (W : World), Below w.heap.size w W → OwnFrom W.heap.size J → OwnFrom W.heap.size Jx → (∀ r A, J r A → Good A) →
    (∀ r W1, J r W1 → r < N → YieldAt Fence.wide (n - 1) P l (enc r) W1 fun e W' =>
      (e = .returned (.bool true) ∧ J (r + 1) W' ∧ Kp W.heap.size W1 W') ∨ (e = .returned (.bool false) ∧ Jx (r + 1) W' ∧ Kp W.heap.size W1 W')) →
    J 0 W →
    CallsIn Fence.wide n P g (#[.func (.yield l) #[] #[]] ++ lb) W fun e W' => (∃ v, e = .returned v) ∧ (J N W' ∨ ∃ r, r ≤ N ∧ Jx r W')
/-- How the body of a round may be left. -/
def tellPostG (B : Nat) (Kp : World → World → Prop) (I : Nat → World → Prop) (Ix : Code → Nat → World → Prop) (r : Nat) (W : World) : Exit → Act → World → Prop
  | .normal, _, W' => KeepsFrom B W W' ∧ Kp W W' ∧ I r W'
  | .ret, _, W' => KeepsFrom B W W' ∧ Kp W W' ∧ Ix .ret r W'
  | .exit id, _, W' => KeepsFrom B W W' ∧ Kp W W' ∧ Ix (.exit id) r W'
  | .goto t, _, W' => KeepsFrom B W W' ∧ Kp W W' ∧ Ix (.goto t) r W'
  | .panic _, _, _ => False
  | .outgrown, _, _ => False
theorem range_tellG {Good : World → Prop} {n : Nat} {g : Operand} {ps : Array Tmp} {assign body : Code} {Q : Exit → Act → World → Prop} {a : Act} {w : World}
    (hn : 1 ≤ n) {gf : Nat} {lb : Array Value} (hg : a.eval g = .func (.func gf) #[] lb) (eg : ∀ args w, (callFunc gf args).run P w = .ok (.enter gf args) w)
    {enc : Nat → Array Value} {Kp : Nat → World → World → Prop} {N : Nat} {w0 : World} (hseq : SeqTellG Good (n - 1) P gf lb enc Kp N w0) (hb0 : Below w0.heap.size w0 w) (hps : ∀ x, (enc x).size = ps.size)
    (hKt : ∀ {b : Nat} {A B C : World}, Kp b A B → Kp b B C → Kp b A C) (hKl : ∀ (W : World) (l : Nat) (r r' : Loop), w.heap.size ≤ l → l < w.heap.size + 1 + 1 → W.heap[l]? = some (.loop r) → Kp (w.heap.size + 1 + 1) W (W.putObj l (.loop r')))
    (I : Nat → World → Prop) (Ix : Code → Nat → World → Prop) (hI : OwnFrom w.heap.size I) (hIx : ∀ c, OwnFrom w.heap.size (Ix c)) (h0 : I 0 w) (hGd : ∀ r W, I r W → Good W)
    (Ax : Nat → Act → World → Prop) (hAx : ∀ x a', OwnFrom w.heap.size (fun (_ : Unit) W => Ax x a' W))
    (hassign : ∀ (l : Nat) (r : Nat) (W : World) (K : Act → World → Prop), r < N → I r W → (∀ a' W', KeepsFrom w.heap.size W W' → Kp (w.heap.size + 1 + 1) W W' → I r W' → Ax r a' W' → K a' W') →
      assign.wpIn (Fence.wide.inRound l) (n - 1 - 1) P (Exit.then K (fun _ _ _ => False)) { tmps := (ps.zip (enc r)).foldl (fun t (p, v) => t.setIfInBounds p v) a.tmps, defers := [] } W)
    (hbody : ∀ (l : Nat) (r : Nat) (a' : Act) (W : World), w.heap.size ≤ l → (∃ r, W.heap[l]? = some (.loop r)) → r < N → I r W → Ax r a' W → body.wpIn (Fence.wide.inRound l) (n - 1 - 1) P (tellPostG w.heap.size (Kp (w.heap.size + 1 + 1)) I Ix (r + 1) W) a' W)
    (hdone : ∀ (D : Nat) (W : World), w.heap.size ≤ D → I N W → W.heap[D]? = some (.deferred (some [])) → Q .normal { a with defers := { target := .collected D, args := #[] } :: a.defers } W)
    (hstop : ∀ (D : Nat) (c : Code) (r : Nat) (W : World), w.heap.size ≤ D → r ≤ N → Ix c r W → W.heap[D]? = some (.deferred (some [])) → c.wpIn Fence.wide n P Q { a with defers := { target := .collected D, args := #[] } :: a.defers } W) :
    (Code.rangeFunc g ps assign body).wpIn Fence.wide n P Q a w := by
  refine wpIn_rangeFunc fun fn hfn => ?_
  obtain ⟨L, hL⟩ : ∃ L : LoopState → Option Code → Loop, L = fun st pe => { state := st, pending := pe, fn, tmps := a.tmps, params := ps, assign, body, defers := w.heap.size } := ⟨_, rfl⟩
  have book1 := Book.new w (L .ready none)
  have inv1 : I 0 ((w.alloc (.deferred (some []))).alloc (.loop (L .ready none))) := hI.alloc _ (hI.alloc _ h0)
  have below1 : Below w0.heap.size w0 ((w.alloc (.deferred (some []))).alloc (.loop (L .ready none))) :=
    hb0.trans ((((Below.refl _ w).alloc (Nat.le_refl _) _).alloc (by simp) _).mono hb0.size)
  have size1 : ((w.alloc (.deferred (some []))).alloc (.loop (L .ready none))).heap.size = w.heap.size + 1 + 1 := by simp
  have enter1 : (Instr.enterLoop fn a.tmps ps assign body Fence.wide.round).run P w = .ok (w.heap.size + 1, [{ target := .collected w.heap.size, args := #[] }]) ((w.alloc (.deferred (some []))).alloc (.loop (L .ready none))) := by
    rw [hL]; exact run_enterLoop_outer _ _ _ _ _
  generalize (w.alloc (.deferred (some []))).alloc (.loop (L .ready none)) = W1 at *
  -- between two rounds, and behind the one that has left
  obtain ⟨J, hJ⟩ : ∃ J : Nat → World → Prop, J = fun r W => I r W ∧ Book w.heap.size (L .ready none) W := ⟨_, rfl⟩
  obtain ⟨Jx, hJx⟩ : ∃ Jx : Nat → World → Prop, Jx = fun r W => ∃ c, Ix c r W ∧ Book w.heap.size (L .done (some c)) W := ⟨_, rfl⟩
  have own : ∀ {A : World} {row : Option Nat}, (∀ r, row = some r → W1.heap.size ≤ r ∧ ∃ o : Obj, A.heap[r]? = some o ∧ o.isCells = false) → ∀ r, row = some r → w.heap.size ≤ r ∧ ∃ o : Obj, A.heap[r]? = some o ∧ o.isCells = false := fun hr r e => by
    obtain ⟨h1, o, h2, h3⟩ := hr r e
    exact ⟨by omega, o, h2, h3⟩
  have abJ : OwnFrom W1.heap.size J := fun s X Y row hs hg' hr => by
    rw [hJ] at hs ⊢
    exact ⟨hI s X Y row hs.1 hg' (own hr), hs.2.grown hg' (fun r e => by have := (hr r e).1; omega)⟩
  have abJx : OwnFrom W1.heap.size Jx := fun s X Y row hs hg' hr => by
    rw [hJx] at hs ⊢
    obtain ⟨c, h1, h2⟩ := hs
    exact ⟨c, hIx c s X Y row h1 hg' (own hr), h2.grown hg' (fun r e => by have := (hr r e).1; omega)⟩
  have round : ∀ r W, J r W → r < N → YieldAt Fence.wide (n - 1 - 1) P (w.heap.size + 1) (enc r) W fun e W' =>
      (e = .returned (.bool true) ∧ J (r + 1) W' ∧ Kp (w.heap.size + 1 + 1) W W') ∨ (e = .returned (.bool false) ∧ Jx (r + 1) W' ∧ Kp (w.heap.size + 1 + 1) W W') := by
    intro r W hs hlt
    rw [hJ] at hs
    obtain ⟨inv, book⟩ := hs
    have hy := run_yield (P := P) (args := enc r) book.1 (by rw [hL]; exact hps r)
    rw [hL] at hy
    refine ⟨fn, _, assign, body, hy, roundIn_of_wpIn hfn (hassign _ r W _ hlt inv ?_)⟩
    clear hy
    intro a' Wa hka hkpa inva hax
    have booka := book.keeps hka
    refine ⟨_, run_beginRound booka.1 (by rw [hL]), ?_⟩
    have busy := booka.turn { L .ready none with state := .busy }
    have invB := hI.putObj (.loop { L .ready none with state := .busy }) inva (by omega) booka.1 rfl
    have axB := (hAx r a').putObj (s := ()) (.loop { L .ready none with state := .busy }) hax (by omega) booka.1 rfl
    have kpB := hKt hkpa (hKl Wa (w.heap.size + 1) _ { L .ready none with state := .busy } (by omega) (by omega) booka.1)
    generalize Wa.putObj (w.heap.size + 1) (.loop { L .ready none with state := .busy }) = WB at *
    refine wpIn_mono (hbody _ r a' WB (by omega) ⟨_, busy.1⟩ hlt invB axB) ?_
    have last : ∀ (jump : Option Code) (W3 : World), KeepsFrom w.heap.size WB W3 → (Instr.endRound (w.heap.size + 1) jump).run P W3 = .ok (.bool jump.isNone) (W3.putObj (w.heap.size + 1) (.loop (L (if jump.isNone then .ready else .done) jump))) ∧ Book w.heap.size { L .ready none with state := .busy } W3 := fun jump W3 hk => by
      have b3 := busy.keeps hk
      have e := run_endRound (P := P) jump b3.1
      refine ⟨?_, b3⟩
      rw [hL] at e ⊢
      exact e
    have leave : ∀ (c : Code) (W3 : World), KeepsFrom w.heap.size WB W3 ∧ Kp (w.heap.size + 1 + 1) WB W3 ∧ Ix c (r + 1) W3 → ∃ v W4, (Instr.endRound (w.heap.size + 1) (some c)).run P W3 = .ok v W4 ∧
        ((Ending.returned v = .returned (.bool true) ∧ J (r + 1) W4 ∧ Kp (w.heap.size + 1 + 1) W W4) ∨ (Ending.returned v = .returned (.bool false) ∧ Jx (r + 1) W4 ∧ Kp (w.heap.size + 1 + 1) W W4)) := fun c W3 ⟨hk, hkp, hx⟩ => by
      obtain ⟨e, b3⟩ := last (some c) W3 hk
      exact ⟨_, _, e, .inr ⟨rfl, by rw [hJx]; exact ⟨c, (hIx c).putObj _ hx (by omega) b3.1 rfl, b3.turn _⟩, hKt kpB (hKt hkp (hKl W3 _ _ _ (by omega) (by omega) b3.1))⟩⟩
    intro e a3 W3 hp
    cases e with
    | normal =>
      obtain ⟨hk, hkp, hi3⟩ := hp
      obtain ⟨e, b3⟩ := last none W3 hk
      exact ⟨_, _, e, .inl ⟨rfl, by rw [hJ]; exact ⟨hI.putObj _ hi3 (by omega) b3.1 rfl, b3.turn _⟩, hKt kpB (hKt hkp (hKl W3 _ _ _ (by omega) (by omega) b3.1))⟩⟩
    | ret => exact leave _ W3 hp
    | exit id => exact leave _ W3 hp
    | goto t => exact leave _ W3 hp
    | panic ch => exact hp.elim
    | outgrown => exact hp.elim
  refine ⟨w.heap.size + 1, [{ target := .collected w.heap.size, args := #[] }], W1, { target := .fn (.func gf) lb, args := #[.func (.yield (w.heap.size + 1)) #[] #[]] }, W1, gf,
    #[.func (.yield (w.heap.size + 1)) #[] #[]] ++ lb, W1, enter1, ?_, ?_, ?_, fun _ => hn, ?_⟩
  · simp only [resolve, hg]
    simp [go_sem]
  · intro f' _; trivial
  · simp [invoke, go_sem, eg]
  · refine (hseq (w.heap.size + 1) J Jx W1 below1 abJ abJx (fun r A h => hGd r A (by rw [hJ] at h; exact h.1)) (by rw [size1]; exact round) (by rw [hJ]; exact ⟨inv1, book1⟩)).mono ?_
    rintro e W2 ⟨⟨v, rfl⟩, h | h⟩
    · rw [hJ] at h
      obtain ⟨hi2, b2⟩ := h
      have e := run_endLoop (P := P) b2.1 (by rw [hL]; simp)
      exact ⟨none, _, by rw [hL] at e; exact e, hdone _ _ (Nat.le_refl _) (hI.putObj _ hi2 (by omega) b2.1 rfl) ((World.putObj_heap_other (by omega)).trans b2.2)⟩
    · obtain ⟨r, hr, hs⟩ := h
      rw [hJx] at hs
      obtain ⟨c, hx2, b2⟩ := hs
      have e := run_endLoop (P := P) b2.1 (by rw [hL]; simp)
      exact ⟨some c, _, by rw [hL] at e; exact e, hstop _ c r _ (Nat.le_refl _) hr ((hIx c).putObj _ hx2 (by omega) b2.1 rfl) ((World.putObj_heap_other (by omega)).trans b2.2)⟩
end

/-! bitmap.Each, number by number. -/
def encN (L : List Nat) (r : Nat) : Array Value := #[.int .i64 ((L.getD r 0 : Nat) : Int)]
theorem plB_at (X : Nat → Nat) {j k r : Nat} (hj : j < k) (hr : r < (places (X j)).length) : (placesB X (64 * k)).getD ((placesB X (64 * j)).length + r) 0 = 64 * j + plc (X j) r % 64 := by
  obtain ⟨t, ht⟩ := placesB_prefix X (show 64 * (j + 1) ≤ 64 * k by omega)
  rw [← ht, placesB_word]
  unfold plc
  simp [List.getD, List.getElem?_append, hr]
  rw [if_neg (by omega)]
  rfl
theorem plB_len (X : Nat → Nat) {j k : Nat} (hj : j < k) : (placesB X (64 * j)).length + (places (X j)).length ≤ (placesB X (64 * k)).length := by
  obtain ⟨t, ht⟩ := placesB_prefix X (show 64 * (j + 1) ≤ 64 * k by omega)
  have := congrArg List.length ht
  rw [placesB_word, List.length_append, List.length_append, List.length_map] at this
  omega
theorem plB_next (X : Nat → Nat) (j : Nat) : (placesB X (64 * (j + 1))).length = (placesB X (64 * j)).length + (places (X j)).length := by rw [placesB_word, List.length_append, List.length_map]
theorem plB_lt (X : Nat → Nat) (j : Nat) : (placesB X (64 * j)).length ≤ 64 * j := by have := List.length_filter_le (bitAt X) (List.range (64 * j)); rw [List.length_range] at this; exact this

set_option maxRecDepth 100000 in
set_option maxHeartbeats 2000000 in
theorem each1B_t (Safe : Nat → World → Prop) (n : Nat) (hn : 1 ≤ n) (l Bl n0 B g k cap : Nat) (ao : Option Addr) (cur : Array Value) (t : TypeId) (X : Nat → Nat) (hk : k ≤ 17592186044416) (h0 : 0 < n0) (J Jx : Nat → World → Prop) (W : World) (hn0 : n0 ≤ W.heap.size) (hB : B ≤ W.heap.size)
    (hJ : OwnFrom W.heap.size J) (hJx : OwnFrom W.heap.size Jx) (hSo : OwnFrom W.heap.size Safe) (hSn : ∀ r A, J r A → (∀ o, Safe A.heap.size (A.alloc o)) ∧ Safe g A)
    (hY : ∀ r W1, J r W1 → r < (placesB X (64 * k)).length → YieldAt Fence.wide (n - 1) Tryd.prog l (encN (placesB X (64 * k)) r) W1 fun e W' =>
      (e = .returned (.bool true) ∧ J (r + 1) W' ∧ HeldS Safe n0 B g W1 W') ∨ (e = .returned (.bool false) ∧ Jx (r + 1) W' ∧ HeldS Safe n0 B g W1 W'))
    (hT : Tab W) (al : At W Bl #[.slice ao k cap] 32) (hX : ∀ j, j < k → X j < 18446744073709551616 ∧ ao = some ⟨g, 0, none⟩ ∧ cur[j]? = some (.int .u64 ((X j : Nat) : Int))) (ag : At W g cur t) (hJ0 : J 0 W) :
    CallsIn Fence.wide n Tryd.prog 67 #[.func (.yield l) #[] #[], .pointer (some ⟨Bl, 0, none⟩)] W fun e W' => (∃ v, e = .returned v) ∧
      (J (placesB X (64 * k)).length W' ∨ ∃ r, r ≤ (placesB X (64 * k)).length ∧ Jx r W') := by
  have cl := (al.alloc (.cells #[.func (.yield l) #[] #[]] 61)).cell 0
  simp only [List.getElem?_toArray, List.getElem?_cons_zero] at cl
  have ay := At.new W #[.func (.yield l) #[] #[]] 61
  have ag1 := ag.alloc (.cells #[.func (.yield l) #[] #[]] 61)
  have hT1 : Tab (W.alloc (.cells #[.func (.yield l) #[] #[]] 61)) := hT.below ((Below.refl n0 W).alloc hn0 _) h0
  have hJ1 := hJ.alloc (.cells #[.func (.yield l) #[] #[]] 61) hJ0
  have sy1 := (hSn _ _ hJ0).1 (.cells #[.func (.yield l) #[] #[]] 61)
  have sg1 := hSo.alloc (.cells #[.func (.yield l) #[] #[]] 61) (hSn _ _ hJ0).2
  refine callsIn_of_wp_marks Tryd.func67 rfl trivial ?_ rfl
  simp only [Tryd.ntmps67, List.size_toArray, List.length_cons, List.length_nil, Nat.reduceAdd, Nat.reduceSub, Array.replicate_succ, Array.replicate_zero, List.push_toArray, List.append_toArray, List.nil_append, List.cons_append]
  gi_wp2
  have hz : (W.alloc (.cells #[.func (.yield l) #[] #[]] 61)).heap.size = W.heap.size + 1 := by simp
  have hzh := hz
  generalize W.alloc (.cells #[.func (.yield l) #[] #[]] 61) = W1 at *
  refine wpIn_loop (fun a Wi => ∃ (j : Nat) (ds : List Deferred) (u3 u4 u9 u10 u11 u12 u13 u14 u23 : Value), a = { tmps := #[.func (.yield l) #[] #[], .pointer (some ⟨Bl, 0, none⟩), .pointer (some ⟨W.heap.size, 0, none⟩), u3, u4, undef, .slice ao k cap, .int .i64 (k : Int), .int .i64 (j : Int), u9, u10, u11, u12, u13, u14, undef, undef, undef, undef, undef, undef, undef, undef, u23], defers := ds } ∧
      j ≤ k ∧ J (placesB X (64 * j)).length Wi ∧ At Wi W.heap.size #[.func (.yield l) #[] #[]] 61 ∧ At Wi g cur t ∧ Tab Wi ∧ W.heap.size + 1 ≤ Wi.heap.size ∧ Marks W.heap.size Wi.heap.size ds Wi ∧ Safe W.heap.size Wi ∧ Safe g Wi) (fun a _ => k - (intOf (a.tmps.getD 8 undef)).toNat) ?_ ?_
  · exact ⟨0, [], undef, undef, undef, undef, undef, undef, undef, undef, undef, rfl, Nat.zero_le _, hJ1, ay, ag1, hT1, by omega, trivial, sy1, sg1⟩
  rintro a Wi ⟨j, ds, u3, u4, u9, u10, u11, u12, u13, u14, u23, rfl, hj, hJi, ayi, agi, hTi, hzi, hmi, syi, sgi⟩
  by_cases hlt : j < k
  · obtain ⟨hx, rfl, hcu⟩ := hX j hlt
    obtain ⟨x, hx'⟩ : ∃ x, Hid (X j = x) := ⟨_, rfl⟩
    rw [hx'.out] at hx hcu
    have d1 := agi.cell j
    rw [hcu] at d1
    clear hcu
    gi_wp2_with fail
    refine ⟨trivial, ?_⟩
    refine (callsIn_wide.2 (each_calls x _)).mono ?_
    rintro e w1 ⟨rfl, hw1⟩
    have aj : At w1 Wi.heap.size #[.int .i64 (j : Int)] 3 := by rw [hw1]; exact (At.new Wi _ _).alloc _
    have ax : At w1 (Wi.heap.size + 1) #[.int .u64 (x : Int)] 22 := by
      have h := At.new (Wi.alloc (.cells #[.int .i64 (j : Int)] 3)) #[.int .u64 (x : Int)] 22
      rw [hw1]; simpa using h
    have sjw : Safe Wi.heap.size w1 := by rw [hw1]; exact hSo.alloc _ ((hSn _ _ hJi).1 _)
    have syw : Safe W.heap.size w1 := by rw [hw1]; exact hSo.alloc _ (hSo.alloc _ syi)
    have sgw : Safe g w1 := by rw [hw1]; exact hSo.alloc _ (hSo.alloc _ sgi)
    have hbw : Below Wi.heap.size Wi w1 := by rw [hw1]; repeat (first | with_reducible exact Below.refl _ _ | with_reducible refine Below.setCell ?_ (by first | (simp; done) | (simp; omega)) _ | with_reducible refine below_drewN ?_ _ | with_reducible refine Below.alloc ?_ (by first | (simp; done) | (simp; omega)) _ | with_reducible refine Below.drew ?_)
    have ayw := ayi.keptAll hbw
    have agw := agi.keptAll hbw
    have hzw : w1.heap.size = Wi.heap.size + 1 + 1 := by rw [hw1]; simp
    have hJw : J (placesB X (64 * j)).length w1 := by rw [hw1]; exact hJ.alloc _ (hJ.alloc _ hJi)
    have hTw : Tab w1 := hTi.below hbw (by omega)
    have hmw : Marks W.heap.size Wi.heap.size ds w1 := hmi.below hbw (Nat.le_refl _)
    clear hw1
    have hnx : Hid ((placesB X (64 * (j + 1))).length = (placesB X (64 * j)).length + (places x).length) := by show _ = _; rw [plB_next, hx'.out]
    have hcs : Hid ((placesB X (64 * j)).length + (places x).length ≤ (placesB X (64 * k)).length) := by have := plB_len X hlt; rw [hx'.out] at this; exact this
    gi_wp2_with fail
    refine range_tell (n := n) hn (gf := 30) (lb := #[.pointer (some ⟨Wi.heap.size + 1, 0, none⟩)]) rfl (enters_of Tryd.func30 (by kernel_rfl) rfl)
      (each_tell (n - 1) (Wi.heap.size + 1) x hx w1 (by omega) hTw ax) (Below.refl _ _) (fun _ => rfl) KeepTab.trans (keepTab_b (by omega))
      (fun r Wz => J ((placesB X (64 * j)).length + r) Wz ∧ At Wz W.heap.size #[.func (.yield l) #[] #[]] 61 ∧ At Wz Wi.heap.size #[.int .i64 (j : Int)] 3 ∧ At Wz g cur t ∧ Tab Wz ∧ w1.heap.size ≤ Wz.heap.size ∧ Marks W.heap.size Wi.heap.size ds Wz ∧ Safe W.heap.size Wz ∧ Safe Wi.heap.size Wz ∧ Safe g Wz)
      (fun c r Wz => c = .ret ∧ Jx ((placesB X (64 * j)).length + r) Wz ∧ Marks W.heap.size Wi.heap.size ds Wz)
      (fun s Y Z row ⟨h1, h2, h3, h4, h5, h6, h7, h8, h9, h10⟩ hg hr => ⟨hJ _ Y Z row h1 hg (fun r e => ⟨by have := (hr r e).1; omega, (hr r e).2⟩), h2.own hg (fun r e => (hr r e).2), h3.own hg (fun r e => (hr r e).2), h4.own hg (fun r e => (hr r e).2),
        fun j hj => (World.cell?_of_block (w := Y) (hg.block 0 (by omega) (fun e => by have := (hr 0 e.symm).1; omega))).trans (h5 j hj), Nat.le_trans h6 hg.size, h7.own hg (fun r e => by have := (hr r e).1; omega), hSo _ Y Z row h8 hg (fun r e => ⟨by have := (hr r e).1; omega, (hr r e).2⟩), hSo _ Y Z row h9 hg (fun r e => ⟨by have := (hr r e).1; omega, (hr r e).2⟩), hSo _ Y Z row h10 hg (fun r e => ⟨by have := (hr r e).1; omega, (hr r e).2⟩)⟩)
      (fun c s Y Z row ⟨h1, h2, h3⟩ hg hr => ⟨h1, hJx _ Y Z row h2 hg (fun r e => ⟨by have := (hr r e).1; omega, (hr r e).2⟩), h3.own hg (fun r e => by have := (hr r e).1; omega)⟩)
      ⟨hJw, ayw, aj, agw, hTw, Nat.le_refl _, hmw, syw, sjw, sgw⟩
      (fun r a' _ => ∃ q : Nat, Hid (q = plc x r % 64) ∧ a' = { tmps := #[.func (.yield l) #[] #[], .pointer (some ⟨Bl, 0, none⟩), .pointer (some ⟨W.heap.size, 0, none⟩), .pointer (some ⟨Wi.heap.size, 0, none⟩), .int .u64 (x : Int), .int .i64 (q : Int), .slice (some ⟨g, 0, none⟩) k cap, .int .i64 (k : Int), .int .i64 (j : Int), .bool true, .int .i64 (j : Int), .pointer (some ⟨g, j, none⟩), .int .u64 (x : Int), .int .u64 (x : Int), .func (.func 30) #[] #[.pointer (some ⟨Wi.heap.size + 1, 0, none⟩)], .int .i64 (q : Int), undef, undef, undef, undef, undef, undef, undef, u23], defers := [] })
      (fun _ _ _ _ _ _ hs _ _ => hs) ?assign ?body ?done ?stop
    case assign =>
      intro l2 r Wz K hr hI hK
      obtain ⟨q, hq⟩ : ∃ q, Hid (q = plc x r % 64) := ⟨_, rfl⟩
      rw [encP, encE, ← hq.out]
      have hK' := fun a' => hK a' Wz (KeepsFrom.refl _ _) (fun h => h) hI
      clear hK
      gi_wp2
      exact ⟨q, hq, rfl⟩
    case body =>
      rintro l2 r a' Wz hll ⟨rec, hrec⟩ hltp ⟨hJz, ayz, ajz, agz, hTz, hzz, hmz, syz, sjz, sgz⟩ ⟨q, hq, rfl⟩
      have hq64 : q < 64 := by rw [hq.out]; exact Nat.mod_lt _ (by decide)
      have cy := ayz.cell 0
      have cj := ajz.cell 0
      simp only [List.getElem?_toArray, List.getElem?_cons_zero] at cy cj
      obtain ⟨fn, tmps, assign, body, hy, hRd⟩ := hY _ Wz hJz (by have := hcs.out; omega)
      have hv : (placesB X (64 * k)).getD ((placesB X (64 * j)).length + r) 0 = 64 * j + q := by rw [plB_at X hlt (by rw [hx'.out]; exact hltp), hx'.out, hq.out]
      rw [show encN (placesB X (64 * k)) ((placesB X (64 * j)).length + r) = #[.int .i64 (64 * (j : Int) + (q : Int))] by rw [encN, hv]; simp] at hy
      have hle : Hid ((placesB X (64 * j)).length + r + 1 ≤ (placesB X (64 * k)).length) := by have := hcs.out; show _ ≤ _; omega
      have ew : IntKind.i64.wrap (64 * (j : Int)) = 64 * (j : Int) := by rw [IntKind.wrap_i64]; omega
      clear hY hltp hv
      gi_wp2_with fail
      refine ⟨(fun h => by cases h), ?_⟩
      refine (RoundIn.inRound l2 (roundIn_any hRd)).mono ?_
      rintro e W3 (⟨rfl, hJ3, hk3⟩ | ⟨rfl, hJx3, hk3⟩)
      · obtain ⟨a2, s2⟩ := hk3.2.2.2 _ _ _ (.inl hB) syz ayz
        obtain ⟨a3, s3⟩ := hk3.2.2.2 _ _ _ (.inl (by omega)) sjz ajz
        obtain ⟨a4, s4⟩ := hk3.2.2.2 _ _ _ (.inr rfl) sgz agz
        have hT3 := hTz.below hk3.1 h0
        have hs3 : w1.heap.size ≤ W3.heap.size := Nat.le_trans hzz hk3.2.1
        have hm3 := hmz.heldS hk3 hB
        have kf : KeepsFrom w1.heap.size Wz W3 := hk3.from (by omega)
        have hkt := KeepTab.of_below hk3.1 h0
        clear hy hRd hJz hrec hk3
        gi_wp2
        exact ⟨kf, hkt, hJ3, a2, a3, a4, hT3, hs3, hm3, s2, s3, s4⟩
      · have kf : KeepsFrom w1.heap.size Wz W3 := hk3.from (by omega)
        have hm3 := hmz.heldS hk3 hB
        clear hy hRd hJz hrec hk3
        gi_wp2
        exact ⟨kf, rfl, hJx3, hm3⟩
    case done =>
      rintro D Wz hD ⟨hJz, ayz, ajz, agz, hTz, hzz, hmz, syz, -, sgz⟩ hK
      have hDl := (Array.getElem?_eq_some_iff.1 hK).1
      have hJn : J (placesB X (64 * (j + 1))).length Wz := by rw [hnx.out]; exact hJz
      have hmn : Marks W.heap.size Wz.heap.size ({ target := .collected D, args := #[] } :: ds) Wz := ⟨D, rfl, by omega, hDl, hK, hmz.up (by omega)⟩
      clear hY hJz hmz
      gi_wp2
      refine ⟨⟨j + 1, _, _, _, _, _, _, _, _, _, _, by rw [show (((j + 1 : Nat)) : Int) = (j : Int) + 1 by simp], by omega, hJn, ayz, agz, hTz, by omega, hmn, syz, sgz⟩, ?_⟩
      simp [intOf]; omega
    case stop =>
      rintro D c r Wz hD hr ⟨rfl, hX', hmz⟩ hK
      have hmn : Marks W.heap.size (D + 1) ({ target := .collected D, args := #[] } :: ds) Wz := ⟨D, rfl, by omega, by omega, hK, hmz.up (by omega)⟩
      have hrl : Hid ((placesB X (64 * j)).length + r ≤ (placesB X (64 * k)).length) := by have := hcs.out; show _ ≤ _; omega
      clear hY
      gi_wp2
      exact leaves_marks (s := (placesB X (64 * j)).length + r) hJx (fun W' hj => ⟨_, results_none rfl _ _ _, ⟨_, rfl⟩, .inr ⟨_, hrl.out, hj⟩⟩) _ _ _ hmn hX'
  · obtain rfl : j = k := by omega
    clear hY
    gi_wp2
    exact leaves_marks (s := (placesB X (64 * j)).length) hJ (fun W' hj => ⟨_, results_none rfl _ _ _, ⟨_, rfl⟩, .inl hj⟩) _ _ _ hmi hJi
theorem seqB_tellG (Safe : Nat → World → Prop) (n : Nat) (hn : 1 ≤ n) (Bl g n0 : Nat) (L : List Nat) (w : World) (h : SeqB w Bl g L) (hT : Tab w) (h0 : 0 < n0) (hn0 : n0 ≤ w.heap.size) (hSo : ∀ m, OwnFrom m Safe) :
    SeqTellG (fun A => (∀ o, Safe A.heap.size (A.alloc o)) ∧ Safe g A) n Tryd.prog 67 #[.pointer (some ⟨Bl, 0, none⟩)] (encN L) (fun b => HeldS Safe n0 b g) L.length w := by
  obtain ⟨ao, k, cap, cur, t, Y, h1, h2, h3, rfl, h5⟩ := h
  exact fun l J Jx W hW hJ hJx hGd hY hJ0 => each1B_t Safe n hn l Bl n0 W.heap.size g k cap ao cur t Y h3 h0 J Jx W (Nat.le_trans hn0 hW.size) (Nat.le_refl _) hJ hJx (hSo _) hGd hY (hT.below hW (by omega)) (h1.keptAll hW) h5 (h2.keptAll hW) hJ0
end Go.Proofs.YtomeaejjdjidlaaDoor

/-
  strings.Builder, as package marks takes it: copyCheck, WriteString, String.
-/
namespace Go.Proofs.YtomeaejjdjidlaaDoor
open Go.RowKit Go.Shelf

theorem sizeBd : (Tryd.prog.info? 84).map (·.size) = some 2 := by kernel_rfl
theorem liesBd : liesAt Tryd.prog Tryd.prog.depth 84 (2 / Tryd.prog.cellsOf 84) 0 84 1 = true := by kernel_rfl
theorem infoBy : (Tryd.prog.info? 5).map (fun i => (i.zero, i.size, i.bytes)) = some (some (.int .u8 0), 1, 1) := by kernel_rfl
theorem cellsBy : Tryd.prog.cellsOf 5 = 1 := by kernel_rfl
theorem shapeBd {w : World} {m : Nat} {p v : Value} (h : At w m #[p, v] 84) : w.shape? m = some (84, 2) := by
  have h' : w.heap[m]? = some (.cells #[p, v] 84) := h
  simp [World.shape?, h']

set_option maxRecDepth 100000 in
set_option maxHeartbeats 1000000 in
theorem bcheck_used (m : Nat) (v : Value) (w : World) (h : At w m #[.pointer (some ⟨m, 0, none⟩), v] 84) :
    Calls Tryd.prog 68 #[.pointer (some ⟨m, 0, none⟩)] w fun e w' => e = .returned (.tuple #[]) ∧ w' = w := by
  obtain ⟨j, hj, -⟩ := Option.map_eq_some_iff.1 sizeBd
  have c0 := h.cell 0
  simp only [List.getElem?_toArray, List.getElem?_cons_zero] at c0
  go_enter Tryd.func68, Tryd.ntmps68
  go_wp2
  rw [Lib.run_neq_ptr_same w _ Tryd.underlying81 hj]
  go_wp2
  go_end0
  exact ⟨rfl, rfl⟩

set_option maxRecDepth 100000 in
set_option maxHeartbeats 1000000 in
theorem bcheck_fresh (m : Nat) (v : Value) (w : World) (h : At w m #[.pointer none, v] 84) :
    Calls Tryd.prog 68 #[.pointer (some ⟨m, 0, none⟩)] w fun e w' => e = .returned (.tuple #[]) ∧ w' = w.setCell ⟨m, 0, none⟩ (.pointer (some ⟨m, 0, none⟩)) := by
  obtain ⟨j, hj, hjs⟩ := Option.map_eq_some_iff.1 sizeBd
  have hsh := shapeBd h
  have c0 := h.cell 0
  have f0 := h.frozen 0
  simp only [List.getElem?_toArray, List.getElem?_cons_zero] at c0
  go_enter Tryd.func68, Tryd.ntmps68
  go_wp2
  rw [Lib.run_to_unsafe w ⟨m, 0, none⟩ Tryd.underlying81 Tryd.underlying121 hj (by rw [hjs]; decide) hsh (Nat.zero_lt_succ 1)]
  simp only [Result.andThen]
  rw [Oper.upon_value]
  go_wp2
  rw [run_callFunc_extern Tryd.func83 (by kernel_rfl) (by kernel_rfl) (by kernel_rfl) (e := Extern.AbiNoEscape.same) (by kernel_rfl)]
  rw [Lib.run_noEscape]
  simp only [Result.andThen]
  rw [Oper.upon_value]
  go_wp2
  rw [Lib.run_from_unsafe w ⟨m, 0, none⟩ Tryd.underlying121 Tryd.underlying81 hj hsh liesBd]
  simp only [Result.andThen]
  rw [Oper.upon_value]
  go_wp2
  go_end0
  exact ⟨rfl, rfl⟩

/-- The builder in block m holds these bytes; their row lies from B on. -/
def BdI (W : World) (m B : Nat) (l : List UInt8) : Prop := ∃ p v, At W m #[p, v] 84 ∧ (p = .pointer none ∨ p = .pointer (some ⟨m, 0, none⟩)) ∧ W.ownsRow B 5 1 v l.length (Lib.byteCells l)
/-- Its row isn't block b. -/
def SafeB (m b : Nat) (W : World) : Prop := ∃ p v, At W m #[p, v] 84 ∧ v.ownBlock ≠ some b
theorem safeB_own (m n : Nat) : OwnFrom n (SafeB m) := fun _ _ _ _ ⟨p, v, h1, h2⟩ hg hr => ⟨p, v, h1.own hg (fun r e => (hr r e).2), h2⟩
section
variable {W W' : World} {m B : Nat} {l : List UInt8}
theorem rowY_block {v : Value} {n : Nat} {xs : List Value} (h : W.ownsRow B 5 1 v n xs) : v.ownBlock = none ∨ ∃ g cur, v.ownBlock = some g ∧ B ≤ g ∧ W.heap[g]? = some (.cells cur 5 (0, 0)) := by
  rcases h.2 with ⟨rfl, _⟩ | ⟨g, cap, cur, rfl, hb, hgb, _⟩
  · exact .inl rfl
  · exact .inr ⟨g, cur, rfl, hb, hgb⟩
theorem BdI.kept (h : BdI W m B l) (hb : Below W.heap.size W W') : BdI W' m B l := by
  obtain ⟨p, v, h1, hp, h2⟩ := h
  refine ⟨p, v, h1.keptAll hb, hp, h2.kept (grown_of_below hb) ?_⟩
  rcases rowY_block h2 with e | ⟨g, cur, e, _⟩
  · exact .inl e
  · exact .inr (by rw [e]; simp)
theorem BdI.own (h : BdI W m B l) {row : Option Nat} (hg : W.grownBy W' row) (hr : ∀ r, row = some r → ∃ o : Obj, W.heap[r]? = some o ∧ o.isCells = false) : BdI W' m B l := by
  obtain ⟨p, v, h1, hp, h2⟩ := h
  refine ⟨p, v, h1.own hg hr, hp, h2.kept hg ?_⟩
  rcases rowY_block h2 with e | ⟨g, cur, e, _, hgb⟩
  · exact .inl e
  · refine .inr fun e' => ?_
    obtain ⟨o, ho, hc⟩ := hr g (by rw [← e', e])
    rw [hgb] at ho
    cases ho
    cases hc
theorem BdI.good (h : BdI W m B l) {g : Nat} (hg : g < B) : (∀ o, SafeB m W.heap.size (W.alloc o)) ∧ SafeB m g W := by
  obtain ⟨p, v, h1, -, h2⟩ := h
  refine ⟨fun o => ⟨p, v, h1.alloc o, fun e => ?_⟩, p, v, h1, fun e => ?_⟩
  · have := (h2.lt _ e).2; omega
  · have := (h2.lt _ e).1; omega
theorem BdI.other (h : BdI W m B l) {q : Nat} (hq : q ≠ m) (hqB : q < B) (x : Value) : BdI (W.setCell ⟨q, 0, none⟩ x) m B l := by
  obtain ⟨p, v, h1, hp, h2⟩ := h
  exact ⟨p, v, h1.other (p := ⟨q, 0, none⟩) (fun e => hq e.symm) x, hp, ownsRow_setCell_below h2 (a := ⟨q, 0, none⟩) hqB x⟩
end

/-- What a write does to other blocks. -/
theorem bwrite_core {W w2 : World} {m B n0 Bh g : Nat} {v v' : Value} {n k : Nat} {xs ys : List Value} (hv : At W m #[.pointer (some ⟨m, 0, none⟩), v] 84) (hrow : W.ownsRow B 5 1 v n xs) (hm : m < B) (hn0 : n0 ≤ m) (hBh : m < Bh) (hgm : g ≠ m)
    (hown' : w2.ownsRow B 5 1 v' k ys) (hg : W.grownBy w2 v.ownBlock) (hap : v'.ownBlock = v.ownBlock ∨ ∃ g, v'.ownBlock = some g ∧ W.heap.size ≤ g) :
    At w2 m #[.pointer (some ⟨m, 0, none⟩), v] 84 ∧ At (w2.setCell ⟨m, 1, none⟩ v') m #[.pointer (some ⟨m, 0, none⟩), v'] 84 ∧ (w2.setCell ⟨m, 1, none⟩ v').ownsRow B 5 1 v' k ys ∧ HeldS (SafeB m) n0 Bh g W (w2.setCell ⟨m, 1, none⟩ v') := by
  have hmv : v.ownBlock ≠ some m := fun e => by have := (hrow.lt m e).1; omega
  have hmv' : v'.ownBlock ≠ some m := fun e => by have := (hown'.lt m e).1; omega
  have a1 : At w2 m #[.pointer (some ⟨m, 0, none⟩), v] 84 := (hg.block m hv.lt (fun e => hmv e.symm)).trans hv
  have a2 : At (w2.setCell ⟨m, 1, none⟩ v') m #[.pointer (some ⟨m, 0, none⟩), v'] 84 := by have := a1.set 1 v'; simpa using this
  have hgs := grownBy_setCell' w2 m v'
  have blk : ∀ b, b < W.heap.size → b ≠ m → v.ownBlock ≠ some b → (w2.setCell ⟨m, 1, none⟩ v').heap[b]? = W.heap[b]? := fun b hb hbm hbv =>
    (Below.heap_setCell w2 ⟨m, 1, none⟩ v' b hbm).trans (hg.block b hb (fun e => hbv e.symm))
  have hsz : W.heap.size ≤ (w2.setCell ⟨m, 1, none⟩ v').heap.size := Nat.le_trans hg.size (KeepsOthers.setCell w2 ⟨m, 1, none⟩ v').1
  refine ⟨a1, a2, ownsRow_setCell_below hown' (a := ⟨m, 1, none⟩) hm v', ⟨?_, hsz, fun k o _ hc ho => ?_, fun b cs t hb hs ha => ?_⟩⟩
  · exact ((Below.refl n0 W).grown hg (by have := hv.lt; omega) (fun b e => by have := (hrow.lt b e).1; omega)).setCell (p := ⟨m, 1, none⟩) hn0 _
  · have hkl := (Array.getElem?_eq_some_iff.1 ho).1
    rw [blk k hkl (fun e => ?_) (fun e => ?_), ho]
    · subst e
      have hv' : W.heap[k]? = some (.cells #[.pointer (some ⟨k, 0, none⟩), v] 84) := hv
      rw [ho] at hv'
      cases hv'
      cases hc
    · rcases rowY_block hrow with e' | ⟨g', cur, e', _, hgb⟩
      · rw [e'] at e; cases e
      · rw [e'] at e
        cases e
        rw [ho] at hgb
        cases hgb
        cases hc
  · obtain ⟨p, u, hu1, hu2⟩ := hs
    have huv : u = v := by
      have h1 : W.heap[m]? = some (.cells #[p, u] 84) := hu1
      have h2 : W.heap[m]? = some (.cells #[.pointer (some ⟨m, 0, none⟩), v] 84) := hv
      rw [h1] at h2
      simp at h2
      exact h2.2
    subst huv
    have hbm : b ≠ m := by rcases hb with h | h <;> omega
    refine ⟨(blk b ha.lt hbm hu2).trans ha, _, v', a2, ?_⟩
    rcases hap with e | ⟨g', e, hle⟩
    · rw [e]; exact hu2
    · rw [e]
      intro h
      have := ha.lt
      simp at h
      omega

theorem rowY_slice {W : World} {B n : Nat} {v : Value} {xs : List Value} (h : W.ownsRow B 5 1 v n xs) : ∃ so c, v = .slice so n c := by
  rcases h.2 with ⟨rfl, rfl⟩ | ⟨g, cap, cur, rfl, _⟩
  · exact ⟨_, _, rfl⟩
  · exact ⟨_, _, rfl⟩
theorem append_str {w : World} {base n : Nat} {ty : TypeId} {v : Value} {xs : List Value} (hown : w.ownsRow base 5 1 v n xs) (s : ByteArray) (hn : n + s.size ≤ 140737488355328) (hbase : base ≤ w.heap.size) :
    ∃ v' w', (Builtin.append_ #[82, 9] ty #[v, .string s]).run Tryd.prog w = .ok v' w' ∧ w'.ownsRow base 5 1 v' (n + s.size) (xs ++ Lib.strCells s) ∧ w.grownBy w' v.ownBlock ∧ (v'.ownBlock = v.ownBlock ∨ ∃ g, v'.ownBlock = some g ∧ w.heap.size ≤ g) := by
  obtain ⟨i0, hi, hz0, hz1, hz2⟩ := info_parts infoBy
  have hm : n + s.size ≤ maxLen := by unfold maxLen; omega
  obtain ⟨v', w', hr, r1, r2, -⟩ := Lib.run_append_own_string (P := Tryd.prog) w base 82 9 ty 5 i0 Tryd.underlying82 Tryd.underlying9 hi hz0 hz1 hz2 v n xs hown s hm (by omega) hbase
  refine ⟨v', w', hr, r1, r2, ?_⟩
  have new : ∀ {v'' : Value} {w'' : World} {k : Nat} {ys : List Value}, w''.ownsRow w.heap.size 5 1 v'' k ys → v' = v'' → v'.ownBlock = none ∨ ∃ g, v'.ownBlock = some g ∧ w.heap.size ≤ g := by
    rintro v'' w'' k ys ⟨-, ⟨rfl, -⟩ | ⟨g, cap, cur, rfl, hg, -⟩⟩ rfl
    · exact .inl rfl
    · exact .inr ⟨g, rfl, hg⟩
  rcases hown.2 with ⟨rfl, rfl⟩ | ⟨g, cap, cur, rfl, hb, hg, hnc, hcm, hcs, htk⟩
  · obtain ⟨v'', w'', hr2, s1, -, -⟩ := Lib.run_append_own_string (P := Tryd.prog) w w.heap.size 82 9 ty 5 i0 Tryd.underlying82 Tryd.underlying9 hi hz0 hz1 hz2 (.slice none 0 0) 0 [] (World.ownsRow_nil w _ _ _) s hm (by omega) (Nat.le_refl _)
    rw [hr] at hr2
    obtain ⟨rfl, rfl⟩ : v' = v'' ∧ w' = w'' := by simpa using hr2
    exact new s1 rfl
  · by_cases hgr : n + s.size ≤ cap
    · have hr2 := Lib.run_append_room_string (P := Tryd.prog) w 82 9 ty 5 i0 Tryd.underlying82 Tryd.underlying9 hi hz1 g n cap cur hg s hgr (by omega)
      rw [hr] at hr2
      obtain ⟨rfl, -⟩ : v' = _ ∧ w' = _ := by simpa using hr2
      exact .inl rfl
    · have hr2 := Lib.run_append_grow_string (P := Tryd.prog) w 82 9 ty 5 i0 (.int .u8 0) Tryd.underlying82 Tryd.underlying9 hi hz0 ⟨g, 0, none⟩ n cap xs (by rw [hz1]; exact hown.1) (hown.cells (g := g) rfl) s (by omega) (by omega) (by rw [hz2]; have := nextslicecap_le (need := n + s.size) (old := cap) (by omega); omega)
      rw [hr] at hr2
      obtain ⟨rfl, -⟩ : v' = _ ∧ w' = _ := by simpa using hr2
      exact .inr ⟨_, rfl, Nat.le_refl _⟩

theorem wpList_append_str {ops : Array Oper} {rest : List Oper} {o : Oper} {a : Act} {w : World} {Q : Exit → Act → World → Prop} (hgd : o.guard = none) (sl x : Operand)
    (ho : o.op = .call { callee := .builtin .append, args := #[sl, x], argTypes := #[82, 9] }) (base : Nat) (v : Value) (n : Nat) (xs : List Value) (hs : a.eval sl = v) (hown : w.ownsRow base 5 1 v n xs) (s : ByteArray) (hx : a.eval x = .string s)
    (hn : n + s.size ≤ 140737488355328) (hbase : base ≤ w.heap.size)
    (h : ∀ v' w', w'.ownsRow base 5 1 v' (n + s.size) (xs ++ Lib.strCells s) → w.grownBy w' v.ownBlock → (v'.ownBlock = v.ownBlock ∨ ∃ g, v'.ownBlock = some g ∧ w.heap.size ≤ g) → wpList Tryd.prog ops Q rest (a.put o.dst v') w') : wpList Tryd.prog ops Q (o :: rest) a w := by
  refine wpList_plain hgd fun K hK => ?_
  obtain ⟨v', w', hr, h2, h3, h4⟩ := append_str (ty := o.type) hown s hn hbase
  unfold Oper.wp execOp
  simp only [ho, resolve, invoke, builtin, Sem.run_bind, Sem.run_pure, Result.andThen_ok, List.map_toArray, List.map_cons, List.map_nil, hs, hx, hr]
  exact hK _ _ (h v' w' h2 h3 h4)

theorem HeldS.refl_set {m n0 Bh g : Nat} {W : World} {q : Value} (hn0 : n0 ≤ m) (hBh : m < Bh) (hgm : g ≠ m) : HeldS (SafeB m) n0 Bh g W (W.setCell ⟨m, 0, none⟩ q) := by
  refine ⟨(Below.refl n0 W).setCell (p := ⟨m, 0, none⟩) hn0 _, (KeepsOthers.setCell W ⟨m, 0, none⟩ q).1, fun k o hk hc ho => (Below.heap_setCell W ⟨m, 0, none⟩ q k (by show k ≠ m; omega)).trans ho, fun b cs t hb hs ha => ?_⟩
  have hbm : b ≠ m := by rcases hb with h | h <;> omega
  obtain ⟨p', u, hu1, hu2⟩ := hs
  refine ⟨ha.other (p := ⟨m, 0, none⟩) hbm q, q, u, ?_, hu2⟩
  have := hu1.set 0 q
  simpa using this

set_option maxRecDepth 100000 in
set_option maxHeartbeats 2000000 in
theorem bwrite_used (m B : Nat) (v : Value) (l : List UInt8) (s : ByteArray) (hm : m < B) (hn : l.length + s.size ≤ 140737488355328) (w : World) (w0 : World) (h : At w m #[.pointer (some ⟨m, 0, none⟩), v] 84) (hrow : w.ownsRow B 5 1 v l.length (Lib.byteCells l)) (hB : B ≤ w.heap.size)
    (hck : Calls Tryd.prog 68 #[.pointer (some ⟨m, 0, none⟩)] w0 fun e w' => e = .returned (.tuple #[]) ∧ w' = w) (hh : ∀ n0 Bh g, n0 ≤ m → m < Bh → g ≠ m → HeldS (SafeB m) n0 Bh g w0 w) :
    Calls Tryd.prog 49 #[.pointer (some ⟨m, 0, none⟩), .string s] w0 fun e w' => e = .returned (.tuple #[.int .i64 (s.size : Int), .nilIface]) ∧ BdI w' m B (l ++ s.data.toList) ∧ ∀ n0 Bh g, n0 ≤ m → m < Bh → g ≠ m → HeldS (SafeB m) n0 Bh g w0 w' := by
  have hck' := hid hck
  have hh' := hid hh
  have c0 := h.cell 0
  have c1 := h.cell 1
  simp only [List.getElem?_toArray, List.getElem?_cons_zero, List.getElem?_cons_succ] at c0 c1
  have h' := hid h
  have hrow' := hid hrow
  clear hck h hrow hh
  go_enter Tryd.func49, Tryd.ntmps49
  go_wp2_with fail
  refine Calls.mono hck'.out ?_
  rintro e w1 ⟨rfl, hw1⟩
  obtain rfl := hw1.symm
  go_wp2_with (at_builtin; refine wpList_append_str rfl _ _ rfl B v _ _ rfl hrow'.out s rfl hn hB ?_; intro v' w2 hown2 hg hap; obtain ⟨a1, a2, a3, -⟩ := bwrite_core (n0 := m) (Bh := m + 1) (g := m + 1) h'.out hrow'.out hm (Nat.le_refl _) (Nat.lt_succ_self _) (Nat.succ_ne_self _) hown2 hg hap; have a4 := fun n0 Bh g (e1 : n0 ≤ m) (e2 : m < Bh) (e3 : g ≠ m) => (bwrite_core (n0 := n0) (Bh := Bh) (g := g) h'.out hrow'.out hm e1 e2 e3 hown2 hg hap).2.2.2; have d1 := a1.cell 1; have g1 := a1.frozen 1; have d0 := a1.cell 0; simp only [List.getElem?_toArray, List.getElem?_cons_zero, List.getElem?_cons_succ] at d1 d0; have b2 := hid a2; have b3 := hid a3; have b4 := hid a4; obtain ⟨so', c', rfl⟩ := rowY_slice hown2; clear a1 a2 a3 a4 hg hap hown2 c0 c1)
  refine bodyPost_ret (v := .tuple #[.int .i64 (s.size : Int), .nilIface]) (by simp [results, Tryd.results49, go_sem]) rfl ?_
  refine ⟨rfl, ⟨_, _, b2.out, .inr rfl, ?_⟩, fun n0 Bh g e1 e2 e3 => (hh'.out n0 Bh g e1 e2 e3).trans (b4.out n0 Bh g e1 e2 e3)⟩
  have h3 := b3.out
  rw [Lib.strCells_eq, ← Lib.byteCells_append] at h3
  rw [show (l ++ s.data.toList).length = l.length + s.size by rw [List.length_append, Array.length_toList]; rfl]
  exact h3
theorem bwrite_calls (m B : Nat) (l : List UInt8) (s : ByteArray) (hm : m < B) (hn : l.length + s.size ≤ 140737488355328) (w : World) (h : BdI w m B l) (hB : B ≤ w.heap.size) :
    Calls Tryd.prog 49 #[.pointer (some ⟨m, 0, none⟩), .string s] w fun e w' => e = .returned (.tuple #[.int .i64 (s.size : Int), .nilIface]) ∧ BdI w' m B (l ++ s.data.toList) ∧ ∀ n0 Bh g, n0 ≤ m → m < Bh → g ≠ m → HeldS (SafeB m) n0 Bh g w w' := by
  obtain ⟨p, v, h1, rfl | rfl, h2⟩ := h
  · have a1 : At (w.setCell ⟨m, 0, none⟩ (.pointer (some ⟨m, 0, none⟩))) m #[.pointer (some ⟨m, 0, none⟩), v] 84 := by have := h1.set 0 (.pointer (some ⟨m, 0, none⟩)); simpa using this
    exact bwrite_used m B v l s hm hn _ w a1 (ownsRow_setCell_below h2 (a := ⟨m, 0, none⟩) hm _) (Nat.le_trans hB (KeepsOthers.setCell w ⟨m, 0, none⟩ (.pointer (some ⟨m, 0, none⟩))).1) (bcheck_fresh m v w h1) (fun _ _ _ e1 e2 e3 => HeldS.refl_set e1 e2 e3)
  · exact bwrite_used m B v l s hm hn w w h1 h2 hB (bcheck_used m v w h1) (fun _ _ _ _ _ _ => ⟨Below.refl _ _, Nat.le_refl _, fun _ _ _ _ h => h, fun _ _ _ _ hs ha => ⟨ha, hs⟩⟩)

theorem freeze_other (w : World) (p : Addr) (n D : Nat) (h : D ≠ p.block) : (w.freeze p n).heap[D]? = w.heap[D]? := by
  unfold World.freeze
  split
  · rfl
  · simp [Array.getElem?_modify, Ne.symm h]
set_option maxRecDepth 100000 in
set_option maxHeartbeats 2000000 in
theorem bstring_nil (m n0 : Nat) (p : Value) (w : World) (h : At w m #[p, .slice none 0 0] 84) :
    Calls Tryd.prog 50 #[.pointer (some ⟨m, 0, none⟩)] w fun e w' => e = .returned (.string ⟨#[]⟩) ∧ Below n0 w w' ∧ ∀ (D : Nat) (o : Obj), o.isCells = false → w.heap[D]? = some o → w'.heap[D]? = some o := by
  have hUS := fun (W : World) (q : Option Addr) => Lib.run_unsafeString_none (P := Tryd.prog) W 104 3 9 q
  have c1 : w.cell? ⟨m, 1, none⟩ = some (.slice none 0 0) := h.cell 1
  have c1' : w.drew.cell? ⟨m, 1, none⟩ = some (.slice none 0 0) := c1
  have hSD : (Builtin.unsafeSliceData_ #[82] 104 #[.slice none 0 0]).run Tryd.prog w.drew = .ok (.pointer none) w.drew := rfl
  go_enter Tryd.func50, Tryd.ntmps50
  go_wp2
  go_region
  all_goals (go_wp2; go_ret; exact ⟨rfl, Below.drew (Below.refl n0 w), fun _ _ _ h => h⟩)

set_option maxRecDepth 100000 in
set_option maxHeartbeats 2000000 in
theorem bstring_room (m n0 g cap : Nat) (p : Value) (hc0 : cap ≠ 0) (w : World) (h : At w m #[p, .slice (some ⟨g, 0, none⟩) 0 cap] 84) :
    Calls Tryd.prog 50 #[.pointer (some ⟨m, 0, none⟩)] w fun e w' => e = .returned (.string ⟨#[]⟩) ∧ Below n0 w w' ∧ ∀ (D : Nat) (o : Obj), o.isCells = false → w.heap[D]? = some o → w'.heap[D]? = some o := by
  have hUS := fun (W : World) (q : Option Addr) => Lib.run_unsafeString_none (P := Tryd.prog) W 104 3 9 q
  have c1 : w.cell? ⟨m, 1, none⟩ = some (.slice (some ⟨g, 0, none⟩) 0 cap) := h.cell 1
  have c1' : w.drew.cell? ⟨m, 1, none⟩ = some (.slice (some ⟨g, 0, none⟩) 0 cap) := c1
  have hSD : (Builtin.unsafeSliceData_ #[82] 104 #[.slice (some ⟨g, 0, none⟩) 0 cap]).run Tryd.prog w.drew = .ok (.pointer (some ⟨g, 0, none⟩)) w.drew := Lib.run_unsafeSliceData_row _ _ _ _ _ _ hc0
  clear hc0
  go_enter Tryd.func50, Tryd.ntmps50
  go_wp2
  go_region
  all_goals (go_wp2; go_ret; exact ⟨rfl, Below.drew (Below.refl n0 w), fun _ _ _ h => h⟩)

set_option maxRecDepth 100000 in
set_option maxHeartbeats 2000000 in
theorem bstring_noroom (m n0 g : Nat) (p : Value) (cur : Array Value) (w : World) (hB : n0 ≤ w.heap.size) (h : At w m #[p, .slice (some ⟨g, 0, none⟩) 0 0] 84) (hg : w.heap[g]? = some (.cells cur 5 (0, 0))) :
    Calls Tryd.prog 50 #[.pointer (some ⟨m, 0, none⟩)] w fun e w' => e = .returned (.string ⟨#[]⟩) ∧ Below n0 w w' ∧ ∀ (D : Nat) (o : Obj), o.isCells = false → w.heap[D]? = some o → w'.heap[D]? = some o := by
  have hUS := fun (W : World) (q : Option Addr) => Lib.run_unsafeString_none (P := Tryd.prog) W 104 3 9 q
  have hlt := h.lt
  have c1 : w.cell? ⟨m, 1, none⟩ = some (.slice (some ⟨g, 0, none⟩) 0 0) := h.cell 1
  have c1' : w.drew.cell? ⟨m, 1, none⟩ = some (.slice (some ⟨g, 0, none⟩) 0 0) := c1
  have hSD : (Builtin.unsafeSliceData_ #[82] 104 #[.slice (some ⟨g, 0, none⟩) 0 0]).run Tryd.prog w.drew = .ok (.pointer (some ⟨w.drew.heap.size, 0, none⟩)) (w.drew.alloc (.view ⟨g, 0, none⟩ 5)) :=
    Lib.run_unsafeSliceData_zero w.drew _ _ 5 Tryd.underlying104 ⟨g, 0, none⟩ 0 (5, cur.size) (by have hg' : w.drew.heap[g]? = some (.cells cur 5 (0, 0)) := hg; simp [World.shape?, hg'])
  have c2 : (w.drew.alloc (.view ⟨g, 0, none⟩ 5)).cell? ⟨m, 1, none⟩ = some (.slice (some ⟨g, 0, none⟩) 0 0) := (h.drew.alloc (.view ⟨g, 0, none⟩ 5)).cell 1
  have c3 : (w.alloc (.view ⟨g, 0, none⟩ 5)).drew.cell? ⟨m, 1, none⟩ = some (.slice (some ⟨g, 0, none⟩) 0 0) := c2
  clear h hg
  go_enter Tryd.func50, Tryd.ntmps50
  go_wp2
  go_region
  all_goals (go_wp2; go_ret; exact ⟨rfl, (Below.drew (Below.refl n0 w)).alloc hB _, fun D o _ h => (Below.heap_alloc w.drew _ D (Array.getElem?_eq_some_iff.1 h).1).trans h⟩)

set_option maxRecDepth 100000 in
set_option maxHeartbeats 2000000 in
theorem bstring_some (m B n0 : Nat) (p v : Value) (l : List UInt8) (h0 : l ≠ []) (w : World) (h : At w m #[p, v] 84) (hown : w.ownsRow B 5 1 v l.length (Lib.byteCells l)) (hn0 : n0 ≤ B) :
    Calls Tryd.prog 50 #[.pointer (some ⟨m, 0, none⟩)] w fun e w' => e = .returned (.string ⟨l.toArray⟩) ∧ Below n0 w w' ∧ ∀ (D : Nat) (o : Obj), o.isCells = false → w.heap[D]? = some o → w'.heap[D]? = some o := by
  have hl0 : l.length ≠ 0 := by simpa using h0
  obtain ⟨g, cap, cur, rfl, hbg, hg, hnc, hcm, hcs, htake⟩ : ∃ g cap cur, v = .slice (some ⟨g, 0, none⟩) l.length cap ∧ B ≤ g ∧ w.heap[g]? = some (.cells cur 5 (0, 0)) ∧ l.length ≤ cap ∧ cap ≤ maxLen ∧ cur.size = cap * 1 ∧ cur.toList.take (l.length * 1) = Lib.byteCells l := by
    rcases hown.2 with ⟨_, hz⟩ | ⟨g, cap, cur, hv, r⟩
    · exact absurd hz hl0
    · exact ⟨g, cap, cur, hv, r⟩
  have c1 : w.cell? ⟨m, 1, none⟩ = some (.slice (some ⟨g, 0, none⟩) l.length cap) := h.cell 1
  have c1' : w.drew.cell? ⟨m, 1, none⟩ = some (.slice (some ⟨g, 0, none⟩) l.length cap) := c1
  have hSD : (Builtin.unsafeSliceData_ #[82] 104 #[.slice (some ⟨g, 0, none⟩) l.length cap]).run Tryd.prog w.drew = .ok (.pointer (some ⟨g, 0, none⟩)) w.drew := Lib.run_unsafeSliceData_row _ _ _ _ _ _ (by omega)
  have hUS : (Builtin.unsafeString_ #[104, 3] 9 #[.pointer (some ⟨g, 0, none⟩), .int .i64 l.length]).run Tryd.prog w.drew = .ok (.string ⟨l.toArray⟩) (w.drew.freeze ⟨g, 0, none⟩ l.length) := by
    refine Lib.run_unsafeString_row w.drew 104 3 9 5 Tryd.underlying104 cellsBy g cur.size (by have hg' : w.drew.heap[g]? = some (.cells cur 5 (0, 0)) := hg; simp [World.shape?, hg']) l h0 (by omega) (by unfold maxLen at hcm; omega) ?_
    intro j x hx
    exact hown.cells (g := g) rfl j (.int .u8 x.toNat) (by simp [Lib.byteCells, hx])
  have hgn : n0 ≤ g := Nat.le_trans hn0 hbg
  have hg' := hg
  clear h hown hg hcs htake h0 hl0
  go_enter Tryd.func50, Tryd.ntmps50
  go_wp2
  go_region
  all_goals (go_wp2; go_ret; exact ⟨rfl, Lib.below_freeze (Below.drew (Below.refl n0 w)) (p := ⟨g, 0, none⟩) hgn _, fun D o hc h => (freeze_other w.drew ⟨g, 0, none⟩ _ D (fun e => by rw [show D = g from e] at h; rw [h] at hg'; cases hg'; cases hc)).trans h⟩)

theorem bstring_calls (m B n0 : Nat) (l : List UInt8) (w : World) (h : BdI w m B l) (hn0 : n0 ≤ B) (hB : B ≤ w.heap.size) :
    Calls Tryd.prog 50 #[.pointer (some ⟨m, 0, none⟩)] w fun e w' => e = .returned (.string ⟨l.toArray⟩) ∧ Below n0 w w' ∧ ∀ (D : Nat) (o : Obj), o.isCells = false → w.heap[D]? = some o → w'.heap[D]? = some o := by
  obtain ⟨p, v, h1, -, hown⟩ := h
  cases l with
  | nil =>
    rcases hown.2 with ⟨rfl, _⟩ | ⟨g, cap, cur, rfl, hbg, hg, _, _, _, _⟩
    · exact bstring_nil m n0 p w h1
    · by_cases hc0 : cap = 0
      · subst hc0
        exact bstring_noroom m n0 g p cur w (by omega) h1 hg
      · exact bstring_room m n0 g cap p hc0 w h1
  | cons x r => exact bstring_some m B n0 p v (x :: r) (by simp) w h1 hown hn0
end Go.Proofs.YtomeaejjdjidlaaDoor

/-
  Of no program: the text without its blanks outside; where no backslash stands outside, its marks, what is inside and its texts are those of the text.
-/
namespace Go.Proofs.YtomeaejjdjidlaaDoor

/-- How many of the bytes below i stay. -/
def jS (s : ByteArray) : Nat → Nat
  | 0 => 0
  | i + 1 => jS s i + (if blankS s i then 0 else 1)
theorem jS_t {s : ByteArray} {i : Nat} (h : blankS s i = true) : jS s (i + 1) = jS s i := by rw [jS, if_pos h]; rfl
theorem jS_f {s : ByteArray} {i : Nat} (h : blankS s i = false) : jS s (i + 1) = jS s i + 1 := by rw [jS, if_neg (by rw [h]; decide)]
theorem jS_step (s : ByteArray) (i : Nat) : jS s i ≤ jS s (i + 1) := by rw [jS]; omega
theorem jS_mono (s : ByteArray) {a b : Nat} (h : a ≤ b) : jS s a ≤ jS s b := by
  obtain ⟨d, rfl⟩ : ∃ d, b = a + d := ⟨b - a, by omega⟩
  clear h
  induction d with
  | zero => exact Nat.le_refl _
  | succ d ih => exact Nat.le_trans ih (jS_step s (a + d))
theorem jS_le (s : ByteArray) (i : Nat) : jS s i ≤ i := by
  induction i with
  | zero => exact Nat.le_refl _
  | succ i ih => rw [jS]; split <;> omega
theorem jS_lt {s : ByteArray} {i n : Nat} (h : i < n) (hk : blankS s i = false) : jS s i < jS s n := by
  have := jS_mono s (show i + 1 ≤ n from h)
  rw [jS_f hk] at this
  omega
theorem jS_sur (s : ByteArray) {k n : Nat} (h : k < jS s n) : ∃ i, i < n ∧ blankS s i = false ∧ jS s i = k := by
  induction n with
  | zero => rw [jS] at h; omega
  | succ n ih =>
    by_cases hk : k < jS s n
    · obtain ⟨i, h1, h2, h3⟩ := ih hk
      exact ⟨i, by omega, h2, h3⟩
    · cases hb : blankS s n with
      | true => rw [jS_t hb] at h; omega
      | false => rw [jS_f hb] at h; exact ⟨n, by omega, hb, by omega⟩
theorem jS_inj {s : ByteArray} {a b : Nat} (ha : blankS s a = false) (hb : blankS s b = false) (h : jS s a = jS s b) : a = b := by
  rcases Nat.lt_trichotomy a b with h1 | h1 | h1
  · have := jS_lt h1 ha; omega
  · exact h1
  · have := jS_lt h1 hb; omega
/-- The bytes that stay. -/
def minL (s : ByteArray) : Nat → List UInt8
  | 0 => []
  | n + 1 => minL s n ++ (if blankS s n then [] else [s.data[n]?.getD 0])
theorem minL_t {s : ByteArray} {n : Nat} (h : blankS s n = true) : minL s (n + 1) = minL s n := by rw [minL, if_pos h, List.append_nil]
theorem minL_f {s : ByteArray} {n : Nat} (h : blankS s n = false) : minL s (n + 1) = minL s n ++ [s.data[n]?.getD 0] := by rw [minL, if_neg (by rw [h]; decide)]
theorem minL_len (s : ByteArray) (n : Nat) : (minL s n).length = jS s n := by
  induction n with
  | zero => rfl
  | succ n ih =>
    cases hb : blankS s n
    · rw [minL_f hb, jS_f hb, List.length_append, ih]; rfl
    · rw [minL_t hb, jS_t hb, ih]
theorem minL_get {s : ByteArray} {i n : Nat} (h : i < n) (hk : blankS s i = false) : (minL s n)[jS s i]? = some (s.data[i]?.getD 0) := by
  induction n with
  | zero => omega
  | succ n ih =>
    by_cases he : i = n
    · subst he
      rw [minL_f hk, List.getElem?_append_right (by rw [minL_len]; exact Nat.le_refl _), minL_len, Nat.sub_self]
      rfl
    · have h1 := ih (by omega)
      cases hb : blankS s n
      · rw [minL_f hb, List.getElem?_append_left (by rw [minL_len]; exact jS_lt (by omega) hk)]
        exact h1
      · rw [minL_t hb]; exact h1
/-- The text without its blanks outside. -/
def minS (s : ByteArray) : ByteArray := ⟨(minL s s.size).toArray⟩
theorem minS_size (s : ByteArray) : (minS s).size = jS s s.size := by
  show (minL s s.size).toArray.size = _
  rw [List.size_toArray, minL_len]
theorem minS_get {s : ByteArray} {i : Nat} (h : i < s.size) (hk : blankS s i = false) : (minS s).data[jS s i]?.getD 0 = s.data[i]?.getD 0 := by
  show ((minL s s.size).toArray[jS s i]?).getD 0 = _
  rw [List.getElem?_toArray, minL_get h hk]
  rfl
/-- Where there is no blank outside, all stays. -/
theorem min_same {s : ByteArray} (h : ∀ i, i < s.size → blankS s i = false) : minS s = s := by
  have hj : ∀ i, i ≤ s.size → jS s i = i := by
    intro i
    induction i with
    | zero => intro _; rfl
    | succ i ih => intro hi; rw [jS_f (h i (by omega)), ih (by omega)]
  have hs : (minS s).size = s.size := by rw [minS_size, hj _ (Nat.le_refl _)]
  apply ByteArray.ext
  apply Array.ext_getElem?
  intro i
  by_cases hi : i < s.size
  · have h1 := minS_get hi (h i hi)
    rw [hj i (by omega)] at h1
    have a1 : i < (minS s).data.size := by rw [← hs] at hi; exact hi
    have a2 : i < s.data.size := hi
    rw [Array.getElem?_eq_getElem a1, Array.getElem?_eq_getElem a2] at h1 ⊢
    exact congrArg some h1
  · rw [Array.getElem?_eq_none (show (minS s).data.size ≤ i by have : (minS s).data.size = s.size := hs; omega), Array.getElem?_eq_none (show s.data.size ≤ i by have : s.data.size = s.size := rfl; omega)]

theorem slash_quo {s : ByteArray} {i : Nat} (h : slash s i = true) : quoB s i = false := by
  unfold slash at h
  unfold quoB
  rw [decide_eq_true_eq] at h
  rw [h]
  rfl
theorem blank_slash {s : ByteArray} {i : Nat} (h : blankS s i = true) : slash s i = false := by
  unfold blankS blkB byteAt at h
  unfold slash
  rw [Bool.and_eq_true] at h
  have h2 := h.2
  generalize (s.data[i]?.getD 0).toNat = x at h2 ⊢
  simp only [Bool.or_eq_true, beq_iff_eq] at h2
  rcases h2 with ((h | h) | h) | h <;> subst h <;> rfl
theorem blank_out {s : ByteArray} {i : Nat} (h : blankS s i = true) : i < s.size ∧ markS s i = false ∧ inS s i = false := by
  unfold blankS outS at h
  simp only [Bool.and_eq_true, decide_eq_true_eq, Bool.not_eq_true'] at h
  exact ⟨h.1.1, h.1.2.1, h.1.2.2⟩

/-- Within a span all bytes stay, one behind the other. -/
theorem min_run {s : ByteArray} {a b : Nat} (hin : ∀ i, a ≤ i → i < b → inS s i = true) (k : Nat) (hk : a + k ≤ b) : jS s (a + k) = jS s a + k := by
  induction k with
  | zero => rfl
  | succ k ih =>
    have hkp : blankS s (a + k) = false := by
      cases h : blankS s (a + k) with
      | false => rfl
      | true => have := (blank_out h).2.2; rw [hin (a + k) (by omega) (by omega)] at this; cases this
    rw [← Nat.add_assoc, jS_f hkp, ih (by omega)]
    rfl

section
variable {s : ByteArray} (hbs : ∀ i, i < s.size → slash s i = true → inS s i = true)
include hbs
/-- Outside nothing is escaped. -/
theorem out_esc {i : Nat} (hi : i ≤ s.size) (h : oddG (markS s) i = false) : escS s i = false := by
  cases i with
  | zero => rfl
  | succ i =>
    unfold escS
    rw [escG_succ]
    cases hs : slash s i with
    | false => rfl
    | true =>
      have := hbs i hi hs
      unfold inS at this
      rw [h] at this
      cases this
theorem min_state (i : Nat) (hi : i ≤ s.size) : escS (minS s) (jS s i) = escS s i ∧ oddG (markS (minS s)) (jS s i) = oddG (markS s) i := by
  induction i with
  | zero => exact ⟨rfl, rfl⟩
  | succ i ih =>
    obtain ⟨h1, h2⟩ := ih (by omega)
    cases hb : blankS s i with
    | true =>
      obtain ⟨-, b2, b3⟩ := blank_out hb
      have hod : oddG (markS s) i = false := by unfold inS at b3; rw [oddG_succ, b2, Bool.xor_false] at b3; exact b3
      have he := out_esc hbs (by omega) hod
      rw [jS_t hb]
      refine ⟨?_, ?_⟩
      · rw [h1, he]
        unfold escS
        rw [escG_succ, blank_slash hb]
        rfl
      · rw [h2, oddG_succ, b2, Bool.xor_false]
    | false =>
      have hg := minS_get (s := s) (i := i) hi hb
      have hsl : slash (minS s) (jS s i) = slash s i := by unfold slash; rw [hg]
      have hqu : quoB (minS s) (jS s i) = quoB s i := by unfold quoB; rw [hg]
      have hm : markS (minS s) (jS s i) = markS s i := by unfold markS; rw [hqu, h1]
      rw [jS_f hb]
      refine ⟨?_, ?_⟩
      · unfold escS at h1 ⊢
        rw [escG_succ, escG_succ, h1, hsl]
      · rw [oddG_succ, oddG_succ, h2, hm]
theorem min_mark {i : Nat} (hi : i < s.size) (hk : blankS s i = false) : markS (minS s) (jS s i) = markS s i := by
  have hg := minS_get hi hk
  unfold markS
  rw [(min_state hbs i (by omega)).1]
  unfold quoB
  rw [hg]
theorem min_in {i : Nat} (hi : i < s.size) (hk : blankS s i = false) : inS (minS s) (jS s i) = inS s i := by
  unfold inS
  rw [← jS_f hk]
  exact (min_state hbs (i + 1) hi).2
/-- The text without its blanks has none. -/
theorem min_none (k : Nat) (hk : k < (minS s).size) : blankS (minS s) k = false := by
  rw [minS_size] at hk
  obtain ⟨i, h1, h2, rfl⟩ := jS_sur s hk
  have hg := minS_get h1 h2
  unfold blankS outS blkB byteAt at h2 ⊢
  rw [min_mark hbs h1 (by unfold blankS outS blkB byteAt; exact h2), min_in hbs h1 (by unfold blankS outS blkB byteAt; exact h2), hg, minS_size, decide_eq_true hk]
  rw [decide_eq_true h1] at h2
  exact h2
theorem min_twice : minS (minS s) = minS s := min_same (min_none hbs)
theorem min_nxt {f : Nat} (hf : f ≤ s.size + 1) : nxt (markS (minS s)) (minS s).size (jS s f) = jS s (nxt (markS s) s.size f) := by
  rw [minS_size]
  by_cases hfn : f ≤ s.size
  · have hlo := nxt_lo (G := markS s) (n := s.size) (f := f)
    have hle := nxt_le (G := markS s) hfn
    have gap : ∀ k, jS s f ≤ k → k < jS s (nxt (markS s) s.size f) → markS (minS s) k = false := fun k h1 h2 => by
      obtain ⟨i, g1, g2, rfl⟩ := jS_sur s h2
      have hfi : f ≤ i := by
        by_cases h : f ≤ i
        · exact h
        · have := jS_lt (show i < f by omega) g2; omega
      rw [min_mark hbs (by omega) g2]
      exact nxt_gap hfi g1
    by_cases hlt : nxt (markS s) s.size f < s.size
    · have hm := nxt_hit hlt
      have hk : blankS s (nxt (markS s) s.size f) = false := by
        cases hb : blankS s (nxt (markS s) s.size f) with
        | false => rfl
        | true => have := (blank_out hb).2.1; rw [hm] at this; cases this
      exact nxt_is (jS_mono s hlo) (jS_lt hlt hk) (by rw [min_mark hbs hlt hk]; exact hm) gap
    · have he : nxt (markS s) s.size f = s.size := by omega
      rw [he] at gap ⊢
      exact nxt_none (jS_mono s hfn) gap
  · obtain rfl : f = s.size + 1 := by omega
    have h1 : jS s (s.size + 1) = jS s s.size + 1 := jS_f (blankS_out (Nat.le_refl _))
    have e : ∀ (G : Nat → Bool) (n : Nat), nxt G n (n + 1) = n + 1 := fun G n => by unfold nxt; rw [show n - (n + 1) = 0 by omega]; rfl
    rw [e, h1, e]
/-- The spans of the text without its blanks. -/
theorem min_spans : spansS (minS s) = (spansS s).map (fun x => (jS s x.1, jS s x.2)) := by
  have key : ∀ (d f : Nat), f ≤ s.size + 1 → s.size + 1 - f = d → spansAt (markS (minS s)) (minS s).size (jS s f) = (spansAt (markS s) s.size f).map (fun x => (jS s x.1, jS s x.2)) := by
    intro d
    induction d using Nat.strongRecOn with
    | ind d ih =>
      intro f hf hd
      have hn := min_nxt hbs hf
      by_cases hlt : nxt (markS s) s.size f < s.size
      · obtain ⟨o, ho⟩ : ∃ o, nxt (markS s) s.size f = o := ⟨_, rfl⟩
        rw [ho] at hlt hn
        have hlo : f ≤ o := by rw [← ho]; exact nxt_lo
        have hm : markS s o = true := by rw [← ho]; exact nxt_hit (by rw [ho]; exact hlt)
        have hk : blankS s o = false := by
          cases hb : blankS s o with
          | false => rfl
          | true => have := (blank_out hb).2.1; rw [hm] at this; cases this
        obtain ⟨c, hc⟩ : ∃ c, nxt (markS s) s.size (o + 1) = c := ⟨_, rfl⟩
        have hco : o + 1 ≤ c := by rw [← hc]; exact nxt_lo
        have hcn : c ≤ s.size := by rw [← hc]; exact nxt_le (by omega)
        have hn2 := min_nxt hbs (f := o + 1) (by omega)
        rw [hc, jS_f hk] at hn2
        have hkc : blankS s c = false := by
          by_cases hcs : c < s.size
          · cases hb : blankS s c with
            | false => rfl
            | true => have h3 := (blank_out hb).2.1; have h4 := nxt_hit (G := markS s) (n := s.size) (f := o + 1) (by rw [hc]; exact hcs); rw [hc, h3] at h4; cases h4
          · exact blankS_out (by omega)
        have hlt' : nxt (markS (minS s)) (minS s).size (jS s f) < (minS s).size := by rw [hn, minS_size]; exact jS_lt hlt hk
        rw [spansAt_t hlt', hn, hn2, spansAt_t (G := markS s) (n := s.size) (f := f) (by rw [ho]; exact hlt), ho, hc, List.map_cons, ← jS_f hkc, ih (s.size + 1 - (c + 1)) (by omega) (c + 1) (by omega) rfl, jS_f hk]
      · have hnot : ¬ nxt (markS (minS s)) (minS s).size (jS s f) < (minS s).size := by
          rw [hn, minS_size]
          have := jS_mono s (show s.size ≤ nxt (markS s) s.size f by omega)
          omega
        rw [spansAt_f hnot, spansAt_f hlt]
        rfl
  have := key _ 0 (by omega) rfl
  exact this
end
end Go.Proofs.YtomeaejjdjidlaaDoor

/-
  What marks.Minify answers.
-/
namespace Go.Proofs.YtomeaejjdjidlaaDoor
open Go.RowKit Go.Shelf

attribute [local go_sem] Oper.semAt_some

/-! The blanks, one behind the other. -/
/-- Behind the one ahead of the number r. -/
def frL (L : List Nat) (r : Nat) : Nat := if r = 0 then 0 else L.getD (r - 1) 0 + 1
theorem frL_app {L : List Nat} {r x : Nat} (h : r ≤ L.length) : frL (L ++ [x]) r = frL L r := by
  unfold frL
  by_cases h0 : r = 0
  · rw [if_pos h0, if_pos h0]
  · rw [if_neg h0, if_neg h0]
    simp [List.getD, List.getElem?_append, show r - 1 < L.length by omega]
theorem fil_spec (p : Nat → Bool) (n : Nat) : (∀ r, r < ((List.range n).filter p).length → frL ((List.range n).filter p) r ≤ ((List.range n).filter p).getD r 0 ∧ ((List.range n).filter p).getD r 0 < n ∧ p (((List.range n).filter p).getD r 0) = true ∧ ∀ i, frL ((List.range n).filter p) r ≤ i → i < ((List.range n).filter p).getD r 0 → p i = false) ∧
    frL ((List.range n).filter p) ((List.range n).filter p).length ≤ n ∧ ∀ i, frL ((List.range n).filter p) ((List.range n).filter p).length ≤ i → i < n → p i = false := by
  induction n with
  | zero => exact ⟨fun r hr => by simp at hr, by simp [frL], fun i _ hi => by omega⟩
  | succ n ih =>
    obtain ⟨hA, hB, hC⟩ := ih
    cases hp : p n
    · have e : (List.range (n + 1)).filter p = (List.range n).filter p := by simp [List.range_succ, hp]
      rw [e]
      refine ⟨fun r hr => ?_, by omega, fun i h1 h2 => ?_⟩
      · obtain ⟨h1, h2, h3, h4⟩ := hA r hr
        exact ⟨h1, by omega, h3, h4⟩
      · by_cases hi : i = n
        · rw [hi, hp]
        · exact hC i h1 (by omega)
    · have e : (List.range (n + 1)).filter p = (List.range n).filter p ++ [n] := by simp [List.range_succ, hp]
      rw [e]
      generalize (List.range n).filter p = L at *
      refine ⟨fun r hr => ?_, ?_, fun i h1 h2 => ?_⟩
      · rw [List.length_append] at hr
        simp only [List.length_cons, List.length_nil] at hr
        rw [frL_app (by omega)]
        by_cases hl : r < L.length
        · obtain ⟨h1, h2, h3, h4⟩ := hA r hl
          have eg : (L ++ [n]).getD r 0 = L.getD r 0 := by simp [List.getD, List.getElem?_append, hl]
          rw [eg]
          exact ⟨h1, by omega, h3, h4⟩
        · obtain rfl : r = L.length := by omega
          have eg : (L ++ [n]).getD L.length 0 = n := by simp [List.getD]
          rw [eg]
          exact ⟨hB, by omega, hp, hC⟩
      · rw [List.length_append]
        simp [frL, List.getD]
      · rw [List.length_append] at h1
        simp [frL, List.getD] at h1
        omega
theorem minL_run (s : ByteArray) (a d : Nat) (hd : a + d ≤ s.size) (h : ∀ i, a ≤ i → i < a + d → blankS s i = false) : minL s (a + d) = minL s a ++ (s.extract a (a + d)).data.toList := by
  induction d with
  | zero => simp
  | succ d ih =>
    rw [← Nat.add_assoc, minL_f (h (a + d) (by omega) (by omega)), ih (by omega) (fun i h1 h2 => h i h1 (by omega)), List.append_assoc]
    congr 1
    rw [ByteArray.data_extract, ByteArray.data_extract, Array.toList_extract, Array.toList_extract]
    have hl : a + d < s.data.toList.length := by rw [Array.length_toList]; show a + d < s.size; omega
    simp only [List.extract]
    rw [show a + d + 1 - a = (a + d - a) + 1 by omega, List.take_add_one, List.getElem?_drop, show a + (a + d - a) = a + d by omega, List.getElem?_eq_getElem hl]
    simp [Array.getElem?_eq_getElem (show a + d < s.data.size by show a + d < s.size; omega)]

theorem heldB_put {m n0 b g l : Nat} {W : World} {r r' : Loop} (hn : n0 ≤ l) (hl : l < b) (hg : g ≠ l) (hm : m ≠ l) (h : W.heap[l]? = some (.loop r)) : HeldS (SafeB m) n0 b g W (W.putObj l (.loop r')) := by
  have oth : ∀ k, k ≠ l → (W.putObj l (.loop r')).heap[k]? = W.heap[k]? := fun k hk => World.putObj_heap_other hk
  have hgr := grownBy_putObj' W l (.loop r')
  refine ⟨(Below.refl n0 W).grown hgr (by have := (Array.getElem?_eq_some_iff.1 h).1; omega) (fun b e => by cases e; exact hn), hgr.size, fun k o hk hc ho => (oth k (by omega)).trans ho, fun c cs t hc hs ha => ?_⟩
  have hcl : c ≠ l := by rcases hc with h | h <;> omega
  obtain ⟨p, v, h1, h2⟩ := hs
  exact ⟨(oth c hcl).trans ha, p, v, (oth m hm).trans h1, h2⟩
theorem heldB_set {m n0 b g q : Nat} {W : World} (x : Value) (hn : n0 ≤ q) (hq : q < b) (hg : g ≠ q) (hm : m ≠ q) : HeldS (SafeB m) n0 b g W (W.setCell ⟨q, 0, none⟩ x) := by
  refine ⟨(Below.refl n0 W).setCell (p := ⟨q, 0, none⟩) hn _, (KeepsOthers.setCell W ⟨q, 0, none⟩ x).1, fun k o hk hc ho => (Below.heap_setCell W ⟨q, 0, none⟩ x k (by show k ≠ q; omega)).trans ho, fun c cs t hc hs ha => ?_⟩
  have hcq : c ≠ q := by rcases hc with h | h <;> omega
  obtain ⟨p, v, h1, h2⟩ := hs
  exact ⟨ha.other (p := ⟨q, 0, none⟩) hcq x, p, v, h1.other (p := ⟨q, 0, none⟩) hm x, h2⟩

/-- Between two rounds. -/
def MnI (w W0 : World) (s : ByteArray) (L : List Nat) (r : Nat) (Wz : World) : Prop :=
  BdI Wz (w.heap.size + 1) W0.heap.size (minL s (frL L r)) ∧ At Wz w.heap.size #[.string s] 9 ∧ At Wz (w.heap.size + 1 + 1) #[.int .i64 ((frL L r : Nat) : Int)] 3 ∧ Below w.heap.size w Wz ∧ W0.heap.size ≤ Wz.heap.size
theorem mnI_own {w W0 : World} {s : ByteArray} {L : List Nat} {B : Nat} (hB : w.heap.size ≤ B) : OwnFrom B (MnI w W0 s L) := fun t Y Z row ⟨h1, h2, h3, h4, h5⟩ hg hr => by
  have hr' := fun r e => (hr r e).2
  exact ⟨h1.own hg hr', h2.own hg hr', h3.own hg hr', ownFrom_below (β := List Nat) (Nat.le_refl w.heap.size) hB [] Y Z row h4 hg hr, Nat.le_trans h5 hg.size⟩

set_option maxRecDepth 100000 in
set_option maxHeartbeats 4000000 in
theorem minify_in (s : ByteArray) (hs : s.size ≤ 70368744177664) (w : World) (hT : Tab w) (hM : TabM w) (hw0 : 1 < w.heap.size) :
    CallsIn Fence.wide 4 Tryd.prog 32 #[.string s] w fun e w' => e = .returned (.string (minS s)) ∧ Below w.heap.size w w' := by
  have hnf : ∀ (f : Fn) (a b : Array Value) (w : World), Sem.run Tryd.prog (binOp BinOp.eql 26 (.func f a b) .nilFunc) w = .ok (.bool false) w := fun _ _ _ _ => by rfl
  have hbk := hid (fun (w1 : World) (hb : Below w.heap.size w w1) => blanks8_calls s (by omega) w1 (hT.below hb (by omega)) (hM.below hb hw0) (by have := hb.size; omega))
  have hn := hid (wf_size (n := s.size) (by omega))
  have hT' := hid hT
  clear hT hM
  refine callsIn_of_wp_marks Tryd.func32 rfl trivial ?_ rfl
  simp only [Tryd.ntmps32, List.size_toArray, List.length_cons, List.length_nil, Nat.reduceAdd, Nat.reduceSub, Array.replicate_succ, Array.replicate_zero, List.push_toArray, List.append_toArray, List.nil_append, List.cons_append]
  gi_wp2_with fail
  refine ⟨trivial, ?_⟩
  refine (callsIn_wide.2 (hbk.out _ (by repeat (first | with_reducible exact Below.refl _ _ | with_reducible refine Below.setCell ?_ (by first | (simp; done) | (simp; omega)) _ | with_reducible refine below_drewN ?_ _ | with_reducible refine Below.alloc ?_ (by first | (simp; done) | (simp; omega)) _ | with_reducible refine Below.drew ?_)))).mono ?_
  rintro e w1 ⟨g1, hg1, rfl, hA, hb1⟩
  have s0 : At w1 w.heap.size #[.string s] 9 := ((((At.new w _ _).alloc _).alloc _).keptAll hb1)
  have m0 : At w1 (w.heap.size + 1) #[.pointer none, .slice none 0 0] 84 := by
    have h := ((At.new (w.alloc (.cells #[.string s] 9)) #[.pointer none, .slice none 0 0] 84).alloc (.cells #[.int .i64 0] 3)).keptAll (by exact hb1)
    simpa using h
  have f0 : At w1 (w.heap.size + 1 + 1) #[.int .i64 0] 3 := by
    have h := (At.new ((w.alloc (.cells #[.string s] 9)).alloc (.cells #[.pointer none, .slice none 0 0] 84)) #[.int .i64 0] 3).keptAll (by exact hb1)
    simpa using h
  have hB1 : Below w.heap.size w w1 := Below.trans (by repeat (first | with_reducible exact Below.refl _ _ | with_reducible refine Below.setCell ?_ (by first | (simp; done) | (simp; omega)) _ | with_reducible refine below_drewN ?_ _ | with_reducible refine Below.alloc ?_ (by first | (simp; done) | (simp; omega)) _ | with_reducible refine Below.drew ?_)) (hb1.mono (by simp; try omega))
  have hec := hid (eachB_calls (s.size : Int) (some ⟨g1, 0, none⟩) (need s.size) (need s.size) (rowOf (blankS s) s.size) s.size hn.out (by unfold need; omega) (fun e => by cases e) (hid (.inl ⟨rowOf_formed _ _, by simp⟩)) w1 (hA.wds (fun _ _ => rowOf_lt _ _ _) (Nat.le_refl _)))
  unfold bv at hec
  clear hbk hb1 hA hg1
  gi_wp2_with fail
  refine ⟨trivial, ?_⟩
  refine (callsIn_wide.2 hec.out).mono ?_
  rintro e W0 ⟨Bl, g, rfl, hBl, hg, hSq, hb2⟩
  have hB0 : Below w.heap.size w W0 := hB1.trans (hb2.mono hB1.size)
  have hTW := hT'.out.below hB0 (by omega)
  obtain ⟨L, hL⟩ : ∃ L, Hid (placesB (rowOf (blankS s) s.size) s.size = L) := ⟨_, rfl⟩
  rw [hL.out] at hSq
  have hz := fil_spec (bitAt (rowOf (blankS s) s.size)) s.size
  rw [show (List.range s.size).filter (bitAt (rowOf (blankS s) s.size)) = L from hL.out] at hz
  have hbit : ∀ i, i < s.size → bitAt (rowOf (blankS s) s.size) i = blankS s i := fun i hi => by rw [rowOf_bit, decide_eq_true hi]; rfl
  have hA := hid (show ∀ r, r < L.length → frL L r ≤ L.getD r 0 ∧ L.getD r 0 < s.size ∧ minL s (L.getD r 0 + 1) = minL s (frL L r) ++ (s.extract (frL L r) (L.getD r 0)).data.toList by
    intro r hr
    obtain ⟨h1, h2, h3, h4⟩ := hz.1 r hr
    refine ⟨h1, h2, ?_⟩
    rw [minL_t ((hbit _ h2).symm.trans h3)]
    obtain ⟨d, hd⟩ : ∃ d, L.getD r 0 = frL L r + d := ⟨L.getD r 0 - frL L r, by omega⟩
    rw [hd]
    exact minL_run s _ d (by omega) (fun i a b => (hbit i (by omega)).symm.trans (h4 i a (by omega))))
  have hE := hid (show frL L L.length ≤ s.size ∧ minL s s.size = minL s (frL L L.length) ++ (s.extract (frL L L.length) s.size).data.toList by
    obtain ⟨-, h2, h3⟩ := hz
    refine ⟨h2, ?_⟩
    obtain ⟨d, hd⟩ : ∃ d, s.size = frL L L.length + d := ⟨s.size - frL L L.length, by omega⟩
    have h := minL_run s (frL L L.length) d (by omega) (fun i a b => (hbit i (by omega)).symm.trans (h3 i a (by omega)))
    rw [← hd] at h
    exact h)
  have hI0 : MnI w W0 s L 0 W0 := ⟨⟨.pointer none, .slice none 0 0, m0.keptAll hb2, .inl rfl, World.ownsRow_nil _ _ _ _⟩, s0.keptAll hb2, f0.keptAll hb2, hB0, Nat.le_refl _⟩
  have hW0s := (hI0.2.2.1).lt
  obtain ⟨gl, hgl⟩ : ∃ u, Hid (g < W0.heap.size) := by
    obtain ⟨ao, k, cap, cur, ty, Y, -, q2, -⟩ := hSq
    exact ⟨(), q2.lt⟩
  have hgW := hgl.out
  have z1 := f0.lt
  clear hz hec s0 m0 f0 hb2 hL hbit
  gi_wp2_with fail
  refine range_tellG (n := 4) (by decide) (gf := 67) (lb := #[.pointer (some ⟨Bl, 0, none⟩)]) rfl (enters_of Tryd.func67 (by kernel_rfl) rfl)
    (seqB_tellG (SafeB (w.heap.size + 1)) (4 - 1) (by decide) Bl g w.heap.size L W0 hSq hTW (by omega) hB0.size (fun m => safeB_own _ m)) (Below.refl _ _) (fun _ => rfl) HeldS.trans
    (fun W l r r' h1 h2 h3 => heldB_put (by omega) h2 (by omega) (by omega) h3) (MnI w W0 s L) (fun _ _ _ => False) (mnI_own hB0.size) (fun _ _ _ _ _ h _ _ => h) hI0 (fun r W h => h.1.good hgW)
    (fun r a' _ => ∃ A : Nat, Hid (A = L.getD r 0) ∧ a' = { tmps := #[.string s, .pointer (some ⟨w.heap.size, 0, none⟩), .string ⟨#[]⟩, .pointer (some ⟨w.heap.size + 1, 0, none⟩), .pointer (some ⟨w.heap.size + 1 + 1, 0, none⟩), .int .i64 (A : Int), .string s, .agg #[.int .i64 (s.size : Int), .slice (some ⟨g1, 0, none⟩) (need s.size) (need s.size)], .func (.func 67) #[] #[.pointer (some ⟨Bl, 0, none⟩)], .int .i64 (A : Int), undef, undef, undef, undef, undef, undef, undef, undef, undef, undef, undef, undef], defers := [] })
    (fun _ _ _ _ _ _ hs _ _ => hs) ?assign ?body ?done ?stop
  case assign =>
    intro l2 r Wz KK hr hI hKK
    obtain ⟨A, hA'⟩ : ∃ A : Nat, Hid (A = L.getD r 0) := ⟨_, rfl⟩
    rw [encN, ← hA'.out]
    have hK' := fun a' => hKK a' Wz (KeepsFrom.refl _ _) ⟨Below.refl _ _, Nat.le_refl _, fun _ _ _ _ h => h, fun _ _ _ _ hs ha => ⟨ha, hs⟩⟩ hI
    have hAH := hid hA'.out
    clear hKK hA hE
    generalize L.getD r 0 = x at *
    gi_wp2
    exact ⟨A, hAH, rfl⟩
  case body =>
    rintro l2 r a' Wz hll ⟨rec, hrec⟩ hr ⟨hBd, asz, afz, hBz, hzz⟩ ⟨A, hA', rfl⟩
    obtain ⟨q1, q2, q3⟩ := hA.out r hr
    rw [← hA'.out] at q1 q2 q3
    obtain ⟨F, hF⟩ : ∃ F, Hid (frL L r = F) := ⟨_, rfl⟩
    have hFn : Hid (frL L (r + 1) = A + 1) := by show _ = _; unfold frL; rw [if_neg (by omega), Nat.add_sub_cancel, hA'.out]
    rw [hF.out] at q1 q3 afz hBd
    have cs := asz.cell 0
    have cf := afz.cell 0
    have ff := afz.frozen 0
    simp only [List.getElem?_toArray, List.getElem?_cons_zero] at cs cf
    have q1i : (F : Int) ≤ (A : Int) := by omega
    have q2i : (A : Int) < (s.size : Int) := by omega
    have q2j : (A : Int) ≤ (s.size : Int) := by omega
    have hsi : (s.size : Int) ≤ 70368744177664 := by omega
    obtain ⟨T, hTe⟩ : ∃ T, Hid (s.extract F A = T) := ⟨_, rfl⟩
    rw [hTe.out] at q3
    have hTz : T.size = A - F := by rw [← hTe.out, ByteArray.size_extract]; omega
    have hml : (minL s F).length ≤ F := by rw [minL_len]; exact jS_le s F
    have hwr := hid (bwrite_calls (w.heap.size + 1) W0.heap.size (minL s F) T (by omega) (by omega) Wz hBd hzz)
    have asz' := hid asz
    have afz' := hid afz
    have hBz' := hid hBz
    have q3' := hid q3
    have hr' := hid hr
    have sf := hid (hBd.good (g := w.heap.size + 1 + 1) (by omega)).2
    have ss := hid (hBd.good (g := w.heap.size) (by omega)).2
    clear hBd asz afz hBz q3 hA hE hA' hF hml hTz hr
    gi_wp2_with fail
    rw [hTe.out]
    refine ⟨trivial, ?_⟩
    refine (CallsIn.inRound l2 (callsIn_wide.2 hwr.out)).mono ?_
    rintro e W2 ⟨rfl, hBd2, hh2⟩
    have k1 := hid (hh2 w.heap.size (W0.heap.size + 1 + 1) g (by omega) (by omega) (by omega))
    have k0 := hid (hh2 w.heap.size W0.heap.size g (by omega) (by omega) (by omega))
    have as2 := hid ((hh2 w.heap.size (W0.heap.size + 1 + 1) w.heap.size (by omega) (by omega) (by omega)).2.2.2 _ _ _ (.inr rfl) ss.out asz'.out).1
    have af2 := hid ((hh2 w.heap.size (W0.heap.size + 1 + 1) (w.heap.size + 1 + 1) (by omega) (by omega) (by omega)).2.2.2 _ _ _ (.inr rfl) sf.out afz'.out).1
    have cf2 := af2.out.cell 0
    have ff2 := af2.out.frozen 0
    simp only [List.getElem?_toArray, List.getElem?_cons_zero] at cf2
    have hz2 := k1.out.2.1
    have hBd2' := hid hBd2
    have eA : IntKind.i64.wrap ((A : Int) + 1) = ((A + 1 : Nat) : Int) := by rw [IntKind.wrap_i64]; omega
    clear hBd2 hh2 hwr asz' afz' ss sf cs cf ff hTe
    gi_wp2
    have k2 := heldB_set (m := w.heap.size + 1) (n0 := w.heap.size) (b := W0.heap.size + 1 + 1) (g := g) (q := w.heap.size + 1 + 1) (W := W2) (.int .i64 ((A : Int) + 1)) (by omega) (by omega) (by omega) (by omega)
    have k3 := k1.out.trans k2
    refine ⟨⟨k3.2.1, fun k o hk ho hc => ?_⟩, k3, ?_, as2.out.other (p := ⟨w.heap.size + 1 + 1, 0, none⟩) (by show w.heap.size ≠ w.heap.size + 1 + 1; omega) _, ?_, hBz'.out.trans k3.1, Nat.le_trans hzz k3.2.1⟩
    · exact (heldB_set (m := w.heap.size + 1) (n0 := w.heap.size) (b := W0.heap.size) (g := g) (q := w.heap.size + 1 + 1) (W := W2) (.int .i64 ((A : Int) + 1)) (by omega) (by omega) (by omega) (by omega)).2.2.1 k o hk hc (k0.out.2.2.1 k o hk hc ho)
    · rw [hFn.out, q3'.out]
      exact hBd2'.out.other (by omega) (by omega) _
    · have h := af2.out.set 0 (.int .i64 ((A : Int) + 1))
      rw [hFn.out]
      simpa using h
  case done =>
    rintro D Wz hD ⟨hBd, asz, afz, hBz, hzz⟩ hKD
    obtain ⟨q1, q3⟩ := hE.out
    obtain ⟨F, hF⟩ : ∃ F, Hid (frL L L.length = F) := ⟨_, rfl⟩
    rw [hF.out] at q1 q3 afz hBd
    have cs := asz.cell 0
    have cf := afz.cell 0
    simp only [List.getElem?_toArray, List.getElem?_cons_zero] at cs cf
    have q1i : (F : Int) ≤ (s.size : Int) := by omega
    have hsi : (s.size : Int) ≤ 70368744177664 := by omega
    obtain ⟨T, hTe⟩ : ∃ T, Hid (s.extract F s.size = T) := ⟨_, rfl⟩
    rw [hTe.out] at q3
    have hTz : T.size = s.size - F := by rw [← hTe.out, ByteArray.size_extract]; omega
    have hml : (minL s F).length ≤ F := by rw [minL_len]; exact jS_le s F
    have hwr := hid (bwrite_calls (w.heap.size + 1) W0.heap.size (minL s F) T (by omega) (by omega) Wz hBd hzz)
    have hBz' := hid hBz
    have q3' := hid q3
    have hKD' := hid hKD
    clear hBd asz afz hBz q3 hA hE hF hml hTz hKD hI0 hnf
    gi_wp2_with fail
    rw [hTe.out]
    refine ⟨trivial, ?_⟩
    refine (callsIn_wide.2 hwr.out).mono ?_
    rintro e W2 ⟨rfl, hBd2, hh2⟩
    have k1 := hid (hh2 w.heap.size W0.heap.size g (by omega) (by omega) (by omega))
    have hz2 : W0.heap.size ≤ W2.heap.size := Nat.le_trans hzz k1.out.2.1
    rw [← q3'.out] at hBd2
    have hst := hid (bstring_calls (w.heap.size + 1) W0.heap.size W0.heap.size (minL s s.size) W2 hBd2 (Nat.le_refl _) hz2)
    have hK2 := hid (k1.out.2.2.1 D _ hD rfl hKD'.out)
    clear hwr hBd2 hh2 cs cf hTe hKD'
    gi_wp2_with fail
    refine ⟨trivial, ?_⟩
    refine (callsIn_wide.2 hst.out).mono ?_
    rintro e W3 ⟨rfl, hb3, hk3⟩
    have hK3 := hk3 D _ rfl hK2.out
    have hB3 : Below w.heap.size w W3 := (hBz'.out.trans k1.out.1).trans (hb3.mono hB0.size)
    clear hst hk3
    gi_wp2
    refine ⟨by simp, .inl ⟨_, _, rfl, run_takeDeferred hK3, ?_⟩⟩
    refine ⟨.string (minS s), ?_, rfl, hB3.trans (belowK_b (w := w) (Nat.le_refl _) W3 D _ _ (by omega) hK3 rfl rfl)⟩
    simp [results, Tryd.f32, go_sem]
    rfl
  case stop =>
    rintro D c pre W _ _ h _
    exact h.elim
theorem minify8_calls (s : ByteArray) (hs : s.size ≤ 70368744177664) (w : World) (hT : Tab w) (hM : TabM w) (hw0 : 1 < w.heap.size) :
    Calls Tryd.prog 32 #[.string s] w fun e w' => e = .returned (.string (minS s)) ∧ Below w.heap.size w w' := callsIn_wide.1 (minify_in s hs w hT hM hw0)
end Go.Proofs.YtomeaejjdjidlaaDoor
