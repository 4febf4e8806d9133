/-
  What marks.Index answers.
-/
import Derived.Test.YtlckhiflhnlgpabGreatDoorMkA
import Derived.Test.YtlckhiflhnlgpabGreatDoorEachTell
import Derived.Test.YtlckhiflhnlgpabGreatDoorBitEach
import Derived.Test.YtlckhiflhnlgpabGreatDoorKitB
import Derived.Test.YtlckhiflhnlgpabGreatDoorSameI
namespace Go.Proofs.YtlckhiflhnlgpabGreatDoor
open Go.RowKit Go.Shelf

attribute [local go_sem] Oper.semAt_some

theorem beg_row (s : ByteArray) (j : Nat) : ptV s j 0 ||| ptV s j 3 ||| ptV s j 4 = rowOf (begS s) s.size j :=
  rowOf_eq (Nat.or_lt_two_pow (n := 64) (Nat.or_lt_two_pow (n := 64) (ptV_lt s j 0) (ptV_lt s j 3)) (ptV_lt s j 4)) fun r hr => by
    rw [Nat.testBit_or, Nat.testBit_or, beg_three]
    show ((rowOf (strS s) s.size j).testBit r || (rowOf (opnS s) s.size j).testBit r || (rowOf (firS s) s.size j).testBit r) = _
    rw [rowOf_test _ _ _ _ hr, rowOf_test _ _ _ _ hr, rowOf_test _ _ _ _ hr]
    cases decide (64 * j + r < s.size) <;> simp
theorem places_idx (s : ByteArray) : placesB (rowOf (begS s) s.size) (64 * need s.size) = idxS s := by
  have h1 : ∀ m, m ≤ s.size → placesB (rowOf (begS s) s.size) m = idxTo s m := by
    intro m
    induction m with
    | zero => intro _; rfl
    | succ m ih =>
      intro hm
      have hb : bitAt (rowOf (begS s) s.size) m = begS s m := by rw [rowOf_bit, decide_eq_true (by omega)]; rfl
      cases h : begS s m
      · rw [placesB_f (hb.trans h), idxTo_f h, ih (by omega)]
      · rw [placesB_t (hb.trans h), idxTo_t h, ih (by omega)]
  have h2 : ∀ d, placesB (rowOf (begS s) s.size) (s.size + d) = idxS s := by
    intro d
    induction d with
    | zero => exact h1 _ (Nat.le_refl _)
    | succ d ih => rw [← Nat.add_assoc, placesB_f (by rw [rowOf_bit, decide_eq_false (by omega)]; rfl), ih]
  have := h2 (64 * need s.size - s.size)
  rwa [show s.size + (64 * need s.size - s.size) = 64 * need s.size by unfold need; omega] at this

/-- The places told so far: those of the blocks ahead, and r of this one's. -/
def idU (X : Nat → Nat) (j r : Nat) : List Nat := placesB X (64 * j) ++ ((places (X j)).take r).map (fun p => 64 * j + p % 64)
theorem idU_zero (X : Nat → Nat) (j : Nat) : idU X j 0 = placesB X (64 * j) := by simp [idU]
theorem idU_all (X : Nat → Nat) (j : Nat) : idU X j (places (X j)).length = placesB X (64 * (j + 1)) := by rw [placesB_word, idU, List.take_length]
theorem idU_next (X : Nat → Nat) (j r : Nat) (h : r < (places (X j)).length) : idU X j (r + 1) = idU X j r ++ [64 * j + (places (X j)).getD r 0 % 64] := by
  unfold idU
  rw [List.take_add_one, List.getElem?_eq_getElem h]
  simp only [Option.toList_some, List.map_append, List.map_cons, List.map_nil, List.append_assoc]
  simp [List.getD, h]
theorem idU_len (X : Nat → Nat) (j r : Nat) : (idU X j r).length ≤ 64 * (j + 1) := by
  unfold idU
  rw [List.length_append, List.length_map, List.length_take]
  have h1 : (placesB X (64 * j)).length ≤ 64 * j := by have := List.length_filter_le (bitAt X) (List.range (64 * j)); rw [List.length_range] at this; exact this
  have h2 := places_len_le (X j)
  omega

theorem rowI_own {W W' : World} {B n : Nat} {v : Value} {xs : List Value} (h : W.ownsRow B 3 1 v n xs) {row : Option Nat} (hg : W.grownBy W' row) (hr : ∀ r, row = some r → ∃ o : Obj, W.heap[r]? = some o ∧ o.isCells = false) : W'.ownsRow B 3 1 v n xs := by
  refine h.kept hg ?_
  rcases rowI_block h with e | ⟨g, cur, e, _, hgb⟩
  · exact .inl e
  · refine .inr fun e' => ?_
    obtain ⟨o, ho, hc⟩ := hr g (by rw [← e', e])
    rw [hgb] at ho
    cases ho
    cases hc
theorem rowI_slice8 {W : World} {B n : Nat} {v : Value} {xs : List Value} (h : W.ownsRow B 3 1 v n xs) : ∃ so c, v = .slice so n c := by
  rcases h.2 with ⟨rfl, rfl⟩ | ⟨g, cap, cur, rfl, _⟩
  · exact ⟨_, _, rfl⟩
  · exact ⟨_, _, rfl⟩
/-- Between two rounds of the inner range. -/
def IxI (w w1 w2 : World) (s : ByteArray) (X : Nat → Nat) (K g j jb U : Nat) (ds : List Deferred) (r : Nat) (Wz : World) : Prop :=
  GathI Wz w.heap.size w1.heap.size (idU X j r) ∧ At Wz jb #[.int .i64 (j : Int)] 3 ∧ SafeI w.heap.size jb Wz ∧ At Wz g (rowCells (K * 5) (ptZ s)) 43 ∧ Tab Wz ∧ Below w.heap.size w Wz ∧ w2.heap.size ≤ Wz.heap.size ∧ Marks w1.heap.size U ds Wz
theorem ixI_own {w w1 w2 : World} {s : ByteArray} {X : Nat → Nat} {K g j jb U B : Nat} {ds : List Deferred} (hw : 0 < w.heap.size) (hB : w.heap.size ≤ B) (hU : U ≤ B) : OwnFrom B (IxI w w1 w2 s X K g j jb U ds) := fun t Y Z row ⟨h1, h2, h3, h4, h5, h6, h7, h8⟩ hg hr => by
  have hr' := fun r e => (hr r e).2
  have hbz := ownFrom_below (β := List Nat) (Nat.le_refl w.heap.size) hB [] Y Z row h6 hg hr
  refine ⟨h1.own hg hr', h2.own hg hr', safeI_own _ _ _ _ _ _ h3 hg hr, h4.own hg hr', fun j hj => ?_, hbz, Nat.le_trans h7 hg.size, h8.own hg (fun r e => Nat.le_trans hU (hr r e).1)⟩
  have e1 := h6.cell (p := ⟨0, j, none⟩) hw
  have e2 := hbz.cell (p := ⟨0, j, none⟩) hw
  rw [e2, ← e1]
  exact h5 j hj

set_option maxRecDepth 100000 in
set_option maxHeartbeats 4000000 in
theorem index_in (s : ByteArray) (hs : s.size ≤ 1099511627776) (w : World) (hT : Tab w) (hM : TabM w) (hw0 : 1 < w.heap.size) :
    CallsIn Fence.wide 3 Tryz.prog 9 #[.string s] w fun e w' => ∃ v, e = .returned v ∧ w'.ownsRow w.heap.size 3 1 v (idxS s).length (ints (idxS s)) ∧ Below w.heap.size w w' := by
  have hnf : ∀ (f : Fn) (a b : Array Value) (w : World), Sem.run Tryz.prog (binOp BinOp.eql 45 (.func f a b) .nilFunc) w = .ok (.bool false) w := fun _ _ _ _ => by rfl
  have hpc := hid (fun (w1 : World) (hb : Below w.heap.size w w1) => parts_calls s (by omega) w1 (hT.below hb (by omega)) (hM.below hb hw0) (by have := hb.size; omega))
  obtain ⟨K, hK⟩ : ∃ K, Hid (need s.size = K) := ⟨_, rfl⟩
  have hK44 : K ≤ 17179869185 := by have := hK.out; unfold need at this; omega
  rw [hK.out] at hpc
  refine callsIn_of_wp_marks Tryz.func9 rfl trivial ?_ rfl
  simp only [Tryz.ntmps9, List.size_toArray, List.length_cons, List.length_nil, Nat.reduceAdd, Nat.reduceSub, Array.replicate_succ, Array.replicate_zero, List.push_toArray, List.append_toArray, List.nil_append, List.cons_append]
  gi_wp2_with fail
  refine ⟨trivial, ?_⟩
  refine (callsIn_wide.2 (hpc.out _ (by repeat (first | with_reducible exact Below.refl _ _ | with_reducible refine Below.setCell ?_ (by first | (simp; done) | (simp; omega)) _ | with_reducible refine below_drewN ?_ _ | with_reducible refine Below.alloc ?_ (by first | (simp; done) | (simp; omega)) _ | with_reducible refine Below.drew ?_)))).mono ?_
  rintro e w1 ⟨g, hg, rfl, hA, hb⟩
  rw [World.size_alloc] at hg
  have hB1 : Below w.heap.size w w1 := Below.trans (by repeat (first | with_reducible exact Below.refl _ _ | with_reducible refine Below.setCell ?_ (by first | (simp; done) | (simp; omega)) _ | with_reducible refine below_drewN ?_ _ | with_reducible refine Below.alloc ?_ (by first | (simp; done) | (simp; omega)) _ | with_reducible refine Below.drew ?_)) (hb.mono (by simp))
  have hr0 := hid ((At.new w #[.slice none 0 0] 28).keptAll hb)
  have hA' := hid hA
  have hT1 := hid (hT.below hB1 (by omega))
  have hgl := hA.lt
  have hlt0 := hr0.out.lt
  clear hpc hb hA hT hM
  gi_wp2
  clear hnf
  obtain ⟨X, hX⟩ : ∃ X, Hid (rowOf (begS s) s.size = X) := ⟨_, rfl⟩
  refine wpIn_loop (fun a Wi => ∃ (j : Nat) (ds : List Deferred) (u4 u5 u11 u12 u13 u14 u15 u16 u17 u18 u19 u20 u21 u22 u23 u32 : Value), a = { tmps := #[.string s, undef, .slice none 0 0, .pointer (some ⟨w.heap.size, 0, none⟩), u4, u5, undef, .string s, .slice (some ⟨g, 0, none⟩) K K, .int .i64 (K : Int), .int .i64 (j : Int), u11, u12, u13, u14, u15, u16, u17, u18, u19, u20, u21, u22, u23, undef, undef, undef, undef, undef, undef, undef, undef, u32, undef], defers := ds } ∧
      j ≤ K ∧ GathI Wi w.heap.size w1.heap.size (placesB X (64 * j)) ∧ At Wi g (rowCells (K * 5) (ptZ s)) 43 ∧ Tab Wi ∧ Below w.heap.size w Wi ∧ w1.heap.size ≤ Wi.heap.size ∧ Marks w1.heap.size Wi.heap.size ds Wi) (fun a _ => K - (intOf (a.tmps.getD 10 undef)).toNat) ?_ ?_
  · exact ⟨0, [], undef, undef, undef, undef, undef, undef, undef, undef, undef, undef, undef, undef, undef, undef, undef, undef, rfl, Nat.zero_le _, ⟨.slice none 0 0, hr0.out, World.ownsRow_nil _ _ _ _⟩, hA'.out, hT1.out, hB1, Nat.le_refl _, trivial⟩
  rintro a Wi ⟨j, ds, u4, u5, u11, u12, u13, u14, u15, u16, u17, u18, u19, u20, u21, u22, u23, u32, rfl, hj, hGi, hAi, hTi, hBi, hzi, hmi⟩
  by_cases hlt : j < K
  · have hji : (j : Int) < (K : Int) := by omega
    have c0 := pt_cell hAi hlt (f := 0) (by omega)
    have c1 := pt_cell hAi hlt (f := 1) (by omega)
    have c2 := pt_cell hAi hlt (f := 2) (by omega)
    have c3 := pt_cell hAi hlt (f := 3) (by omega)
    have c4 := pt_cell hAi hlt (f := 4) (by omega)
    obtain ⟨P0, hP0⟩ : ∃ P, Hid (ptV s j 0 = P) := ⟨_, rfl⟩
    obtain ⟨P1, hP1⟩ : ∃ P, Hid (ptV s j 1 = P) := ⟨_, rfl⟩
    obtain ⟨P2, hP2⟩ : ∃ P, Hid (ptV s j 2 = P) := ⟨_, rfl⟩
    obtain ⟨P3, hP3⟩ : ∃ P, Hid (ptV s j 3 = P) := ⟨_, rfl⟩
    obtain ⟨P4, hP4⟩ : ∃ P, Hid (ptV s j 4 = P) := ⟨_, rfl⟩
    rw [Nat.add_zero, hP0.out] at c0
    rw [hP1.out] at c1
    rw [hP2.out] at c2
    rw [hP3.out] at c3
    rw [hP4.out] at c4
    have l0 : P0 < 18446744073709551616 := hP0.out ▸ ptV_lt s j 0
    have l3 : P3 < 18446744073709551616 := hP3.out ▸ ptV_lt s j 3
    have l4 : P4 < 18446744073709551616 := hP4.out ▸ ptV_lt s j 4
    obtain ⟨Q, hQ⟩ : ∃ Q, Hid (P0 ||| P3 = Q) := ⟨_, rfl⟩
    have lQ : Q < 18446744073709551616 := hQ.out ▸ Nat.or_lt_two_pow (n := 64) l0 l3
    have eo : bits BinOp.or IntKind.u64 (P0 : Int) (P3 : Int) = (Q : Int) := by rw [u64_or_nat P0 P3 l0 l3, hQ.out]
    obtain ⟨x, hx⟩ : ∃ x, Hid (Q ||| P4 = x) := ⟨_, rfl⟩
    have lx : x < 18446744073709551616 := hx.out ▸ Nat.or_lt_two_pow (n := 64) lQ l4
    have ex : bits BinOp.or IntKind.u64 (Q : Int) (P4 : Int) = (x : Int) := by rw [u64_or_nat Q P4 lQ l4, hx.out]
    have hxX : Hid (X j = x) := by show _ = _; rw [← hX.out, ← beg_row, hP0.out, hP3.out, hP4.out, hQ.out, hx.out]
    have gli := hAi.lt
    clear hP0 hP1 hP2 hP3 hP4 hQ hx l0 l3 l4 lQ
    have hGi' := hid hGi
    have hAi' := hid hAi
    have hTi' := hid hTi
    have hmi' := hid hmi
    clear hGi hAi hTi hmi
    gi_wp2_with fail
    refine ⟨trivial, ?_⟩
    refine (callsIn_wide.2 (each_calls x _)).mono ?_
    rintro e w2 ⟨rfl, hw2⟩
    have aj : At w2 Wi.heap.size #[.int .i64 (j : Int)] 3 := by rw [hw2]; exact ((At.new Wi _ _).alloc _).alloc _
    have ax : At w2 (Wi.heap.size + 1 + 1) #[.int .u64 (x : Int)] 41 := by
      have h := At.new ((Wi.alloc (.cells #[.int .i64 (j : Int)] 3)).alloc (.cells #[.int .u64 (P0 : Int), .int .u64 (P1 : Int), .int .u64 (P2 : Int), .int .u64 (P3 : Int), .int .u64 (P4 : Int)] 43)) #[.int .u64 (x : Int)] 41
      rw [hw2]; simpa using h
    have sj : SafeI w.heap.size Wi.heap.size w2 := by rw [hw2]; exact (safeI_own _ 0).alloc _ ((safeI_own _ 0).alloc _ ((hGi'.out.good (g := 0) (by omega)).1 _))
    have hbw : Below Wi.heap.size Wi w2 := by rw [hw2]; repeat (first | with_reducible exact Below.refl _ _ | with_reducible refine Below.setCell ?_ (by first | (simp; done) | (simp; omega)) _ | with_reducible refine below_drewN ?_ _ | with_reducible refine Below.alloc ?_ (by first | (simp; done) | (simp; omega)) _ | with_reducible refine Below.drew ?_)
    have hzw : w2.heap.size = Wi.heap.size + 1 + 1 + 1 := by rw [hw2]; simp
    have hGw := hGi'.out.kept hbw
    have hAw := hAi'.out.keptAll hbw
    have hTw : Tab w2 := hTi'.out.below hbw (by have := hBi.size; omega)
    have hmw : Marks w1.heap.size Wi.heap.size ds w2 := hmi'.out.below hbw (Nat.le_refl _)
    have hBw : Below w.heap.size w w2 := hBi.trans (hbw.mono hBi.size)
    clear hw2 c0 c1 c2 c3 c4
    have hI0 : IxI w w1 w2 s X K g j Wi.heap.size Wi.heap.size ds 0 w2 := ⟨by rw [idU_zero]; exact hGw, aj, sj, hAw, hTw, hBw, Nat.le_refl _, hmw⟩
    clear hGw aj sj hAw hmw hGi' hAi' hTi' hmi'
    have hBs := hBi.size
    gi_wp2_with fail
    refine range_tell (n := 3) (by decide) (gf := 31) (lb := #[.pointer (some ⟨Wi.heap.size + 1 + 1, 0, none⟩)]) rfl (enters_of Tryz.func31 (by kernel_rfl) rfl)
      (each_tell (3 - 1) (Wi.heap.size + 1 + 1) x lx w2 (by omega) hTw ax) (Below.refl _ _) (fun _ => rfl) KeepTab.trans (keepTab_b (by omega))
      (IxI w w1 w2 s X K g j Wi.heap.size Wi.heap.size ds) (fun _ _ _ => False) (ixI_own (by omega) (by omega) (by omega)) (fun _ _ _ _ _ h _ _ => h) hI0
      (fun r a' _ => ∃ q : Nat, Hid (q = plc x r % 64) ∧ a' = { tmps := #[.string s, undef, .slice none 0 0, .pointer (some ⟨w.heap.size, 0, none⟩), .pointer (some ⟨Wi.heap.size, 0, none⟩), .pointer (some ⟨Wi.heap.size + 1, 0, none⟩), .int .i64 (q : Int), .string s, .slice (some ⟨g, 0, none⟩) K K, .int .i64 (K : Int), .int .i64 (j : Int), .bool true, .int .i64 (j : Int), .pointer (some ⟨g, j * 5, none⟩), .agg #[.int .u64 (P0 : Int), .int .u64 (P1 : Int), .int .u64 (P2 : Int), .int .u64 (P3 : Int), .int .u64 (P4 : Int)], .pointer (some ⟨Wi.heap.size + 1, 0, none⟩), .int .u64 (P0 : Int), .pointer (some ⟨Wi.heap.size + 1, 3, none⟩), .int .u64 (P3 : Int), .int .u64 (Q : Int), .pointer (some ⟨Wi.heap.size + 1, 4, none⟩), .int .u64 (P4 : Int), .int .u64 (x : Int), .func (.func 31) #[] #[.pointer (some ⟨Wi.heap.size + 1 + 1, 0, none⟩)], .int .i64 (q : Int), undef, undef, undef, undef, undef, undef, undef, u32, undef], defers := [] })
      (fun _ _ _ _ _ _ hs _ _ => hs) ?assign ?body ?done ?stop
    case assign =>
      intro l2 r Wz KK hr hI hKK
      obtain ⟨q, hq⟩ : ∃ q, Hid (q = plc x r % 64) := ⟨_, rfl⟩
      rw [encP, encE, ← hq.out]
      have hK' := fun a' => hKK a' Wz (KeepsFrom.refl _ _) (fun h => h) hI
      clear hKK
      gi_wp2
      exact ⟨q, hq, rfl⟩
    case body =>
      rintro l2 r a' Wz hll ⟨rec, hrec⟩ hr ⟨⟨v, hv, hown⟩, ajz, sjz, hAz, hTz, hBz, hzz, hmz⟩ ⟨q, hq, rfl⟩
      have hq64 : q < 64 := by rw [hq.out]; exact Nat.mod_lt _ (by decide)
      have hnx : Hid (idU X j (r + 1) = idU X j r ++ [64 * j + q]) := by show _ = _; rw [idU_next X j r (by rw [hxX.out]; exact hr), hxX.out, hq.out]; rfl
      have hll' := idU_len X j r
      have cj := ajz.cell 0
      have cv := hv.cell 0
      have fv := hv.frozen 0
      simp only [List.getElem?_toArray, List.getElem?_cons_zero] at cj cv
      have ew : IntKind.i64.wrap (64 * (j : Int)) = 64 * (j : Int) := by rw [IntKind.wrap_i64]; omega
      obtain ⟨P, hP⟩ : ∃ P, Hid (64 * j + q = P) := ⟨_, rfl⟩
      have eP : 64 * (j : Int) + (q : Int) = (P : Int) := by have := hP.out; omega
      have ewP : IntKind.i64.wrap (P : Int) = (P : Int) := by rw [IntKind.wrap_i64]; omega
      rw [hP.out] at hnx
      obtain ⟨LL, hLL⟩ : ∃ LL, Hid (idU X j r = LL) := ⟨_, rfl⟩
      rw [hLL.out] at hown hnx hll'
      have hv' := hid hv
      have hown' := hid hown
      have hownA := hid (hown.alloc (.cells #[.int .i64 (P : Int)] 3))
      have hln := hid (show LL.length < 17592186044415 by omega)
      have hcA := hid (show (Wz.alloc (.cells #[.int .i64 (P : Int)] 3)).cell? ((⟨Wz.heap.size, 0, none⟩ : Addr).add 0) = some (.int .i64 (P : Int)) from (At.new Wz #[.int .i64 (P : Int)] 3).cell 0)
      have hWB : w1.heap.size ≤ Wz.heap.size := by omega
      have hmB : w.heap.size < w1.heap.size := by omega
      have ajz' := hid ajz
      have sjz' := hid sjz
      have hAz' := hid hAz
      have hTz' := hid hTz
      have hmz' := hid hmz
      have hBz' := hid hBz
      clear hv hown ajz sjz hAz hTz hmz hBz hq hP hLL hI0 hX hll'
      gi_wp2_with (gi_at_builtin; refine wpListIn_append_int rfl _ _ rfl w1.heap.size v (.int .i64 (P : Int)) _ _ rfl hownA.out ⟨Wz.heap.size, 0, none⟩ 1 rfl hcA.out rfl hln.out (by simp; omega) ?_; intro v' w2' hown2 hg hap; obtain ⟨so', c', rfl⟩ := rowI_slice8 hown2; obtain ⟨a1, a2, a3, a4, a5, a6⟩ := gathI_append (n0 := w.heap.size) (Bh := w1.heap.size) (g := g) hv'.out hown'.out hWB hmB (Nat.le_refl _) hmB (by omega) hown2 hg hap; have b2 := hid a2; have b3 := hid a3; have b4 := hid a4; have b5 := hid a5; have b6 := hid a6; have d1 := a1.cell 0; have g1 := a1.frozen 0; simp only [List.getElem?_toArray, List.getElem?_cons_zero] at d1; clear a1 a2 a3 a4 a5 a6 hg hap cv fv hown2)
      obtain ⟨aj2, sj2⟩ := b4.out.2.2.2 _ _ _ (.inl (by omega)) sjz'.out ajz'.out
      refine ⟨b4.out.from (by omega), KeepTab.of_below b5.out (by omega), ⟨_, b2.out, ?_⟩, aj2, sj2, b6.out _ _ _ hAz'.out (by omega) hgl, hTz'.out.below b5.out (by omega), hBz'.out.trans (b5.out), Nat.le_trans hzz b5.out.size, hmz'.out.heldS b4.out (Nat.le_refl _)⟩
      rw [hnx.out, ints_snoc, List.length_append]
      exact b3.out
    case done =>
      rintro D Wz hD ⟨hG, -, -, hAz, hTz, hBz, hzz, hmz⟩ hKD
      have hDl := (Array.getElem?_eq_some_iff.1 hKD).1
      have hGn : Hid (GathI Wz w.heap.size w1.heap.size (placesB X (64 * (j + 1)))) := by rw [← idU_all, hxX.out]; exact hG
      have hmn : Hid (Marks w1.heap.size Wz.heap.size ({ target := .collected D, args := #[] } :: ds) Wz) := ⟨D, rfl, by omega, hDl, hKD, hmz.up (by omega)⟩
      clear hG hmz hI0
      gi_wp2
      refine ⟨⟨j + 1, _, _, _, _, _, _, _, _, _, _, _, _, _, _, _, _, _, by rw [show (((j + 1 : Nat)) : Int) = (j : Int) + 1 by simp], by omega, hGn.out, hAz, hTz, hBz, by omega, hmn.out⟩, ?_⟩
      simp [intOf]; omega
    case stop =>
      rintro D c pre W _ _ h _
      exact h.elim
  · obtain rfl : j = K := by omega
    obtain ⟨v, hv, hown⟩ := hGi
    obtain ⟨so, sc, rfl⟩ := rowI_slice8 hown
    have cv := hv.cell 0
    simp only [List.getElem?_toArray, List.getElem?_cons_zero] at cv
    have hown' := hid hown
    have hmi' := hid hmi
    have hBi' := hid hBi
    have hBs := hB1.size
    clear hv hown hmi hBi
    gi_wp2
    refine leaves_marks (s := ()) (B := w1.heap.size) (J := fun (_ : Unit) W' => W'.ownsRow w1.heap.size 3 1 (.slice so (placesB X (64 * j)).length sc) (placesB X (64 * j)).length (ints (placesB X (64 * j))) ∧ Below w.heap.size w W') (fun _ Y Z row ⟨h1, h2⟩ hg hr => ⟨rowI_own h1 hg (fun r e => (hr r e).2), ownFrom_below (β := List Nat) (Nat.le_refl w.heap.size) hBs [] Y Z row h2 hg hr⟩) ?_ _ _ _ hmi'.out ⟨hown'.out, hBi'.out⟩
    rintro W' ⟨h1, h2⟩
    rw [← hX.out, ← hK.out, places_idx] at h1
    refine ⟨.slice so (idxS s).length sc, ?_, _, rfl, row_base h1 hBs, h2⟩
    rw [← hX.out, ← hK.out, places_idx]
    simp [results, Tryz.f9, go_sem]
theorem index8_calls (s : ByteArray) (hs : s.size ≤ 1099511627776) (w : World) (hT : Tab w) (hM : TabM w) (hw0 : 1 < w.heap.size) :
    Calls Tryz.prog 9 #[.string s] w fun e w' => ∃ v, e = .returned v ∧ w'.ownsRow w.heap.size 3 1 v (idxS s).length (ints (idxS s)) ∧ Below w.heap.size w w' := callsIn_wide.1 (index_in s hs w hT hM hw0)
end Go.Proofs.YtlckhiflhnlgpabGreatDoor
