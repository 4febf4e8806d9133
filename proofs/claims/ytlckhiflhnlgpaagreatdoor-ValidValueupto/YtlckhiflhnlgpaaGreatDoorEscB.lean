/-
  EscWords, EscRow, RefEsc, EscLawKit.
-/
import Derived.Test.YtlckhiflhnlgpaaGreatDoorEscA
import Derived.Test.YtlckhiflhnlgpaaGreatDoorWordsA
import Derived.Test.YtlckhiflhnlgpaaGreatDoorBitsA
import Derived.Test.YtlckhiflhnlgpaaGreatDoorBlockB
import Derived.Test.YtlckhiflhnlgpaaGreatDoorWordsB
import Derived.Test.YtlckhiflhnlgpaaGreatDoorBitsB
import Derived.Test.YtlckhiflhnlgpaaGreatDoorKitA
import Derived.WalkMore
import Derived.Test.YtlckhiflhnlgpaaGreatDoorRefIsA
import Derived.Test.YtlckhiflhnlgpaaGreatDoorRefOf
import Derived.Test.YtlckhiflhnlgpaaGreatDoorSameWalk
/-
  Of no program: the words of the row of escaped bytes.
-/
namespace Go.Proofs.YtlckhiflhnlgpaaGreatDoor

/-- Which bytes of a text are escaped. -/
def escS (s : ByteArray) : Nat → Bool := escG (slash s) false
theorem escC_G (x : Nat) (c : Bool) (n : Nat) : escC x c n = escG x.testBit c n := by
  induction n with
  | zero => rfl
  | succ n ih => rw [escC_succ, escG_succ, ih]
/-- The backslashes of the block r, as a word. -/
def slashW (s : ByteArray) (r : Nat) : Nat := mk (fun i => isB 92 (cutF s ((64 * r : Nat) : Int) 0 i)) 64
theorem slashW_lt (s : ByteArray) (r : Nat) : slashW s r < 18446744073709551616 := mk_lt64 _ 64 (by decide)
theorem slashW_bit (s : ByteArray) (r i : Nat) (hi : i < 64) : (slashW s r).testBit i = slash s (64 * r + i) := by
  unfold slashW
  rw [mk_bit, decide_eq_true hi, Bool.true_and]
  unfold cutF isB
  by_cases h : 64 * r + i < s.size
  · rw [if_pos ⟨by omega, by omega⟩]
    rfl
  · rw [if_neg (by omega), slash_out s _ (by omega)]
    rfl
theorem escW_word (s : ByteArray) (r n : Nat) (hn : n ≤ 64) : escC (slashW s r) (escS s (64 * r)) n = escS s (64 * r + n) := by
  unfold escS
  rw [escC_G, escG_add]
  exact escG_congr _ fun i hi => slashW_bit s r i (by omega)
theorem escW_row (s : ByteArray) (r : Nat) : escW (slashW s r) (escS s (64 * r)) &&& lowm ((s.size : Int) - 64 * (r : Int)) = rowOf (escS s) s.size r :=
  turn_row (escW_lt _ _) fun i hi => by rw [escW_bit _ _ hi, escW_word s r i (by omega)]
theorem escC_none (n : Nat) : escC 0 false n = false := by
  cases n with
  | zero => rfl
  | succ n => rw [escC_succ]; simp
theorem escW_none : escW 0 false = 0 := by
  refine (zero_iff (escW_lt _ _)).2 fun r hr => ?_
  rw [escW_bit _ _ hr, escC_none]
/-- Where a block has no backslash and nothing is carried. -/
theorem esc_skip (s : ByteArray) (r : Nat) (h : slashW s r = 0) (hc : escS s (64 * r) = false) : rowOf (escS s) s.size r = 0 ∧ escS s (64 * (r + 1)) = false := by
  refine ⟨?_, ?_⟩
  · rw [← escW_row, h, hc, escW_none]; exact Nat.zero_and _
  · rw [Nat.mul_succ, ← escW_word s r 64 (by decide), h, hc, escC_none]
theorem esc_next (s : ByteArray) (r : Nat) : escC (slashW s r) (escS s (64 * r)) 64 = escS s (64 * (r + 1)) := by
  rw [escW_word s r 64 (by decide), Nat.mul_succ]

/-- The row as far as its first r words are told; no bit behind them. -/
def escTo (s : ByteArray) (r : Nat) (j : Nat) : Nat := if j < r then rowOf (escS s) s.size j else 0
theorem escTo_skip (s : ByteArray) (r j : Nat) (h : rowOf (escS s) s.size r = 0) : escTo s r j = escTo s (r + 1) j := by
  unfold escTo
  by_cases hj : j < r
  · rw [if_pos hj, if_pos (by omega)]
  · rw [if_neg hj]
    by_cases hr : j = r
    · rw [if_pos (by omega), hr, h]
    · rw [if_neg (by omega)]
theorem escTo_set (s : ByteArray) (r j : Nat) : (if j = r then rowOf (escS s) s.size r else escTo s r j) = escTo s (r + 1) j := by
  unfold escTo
  by_cases hr : j = r
  · rw [if_pos hr, if_pos (by omega), hr]
  · rw [if_neg hr]
    by_cases hj : j < r
    · rw [if_pos hj, if_pos (by omega)]
    · rw [if_neg hj, if_neg (by omega)]
end Go.Proofs.YtlckhiflhnlgpaaGreatDoor

/-
  What escape.Escaped answers.
-/
namespace Go.Proofs.YtlckhiflhnlgpaaGreatDoor
open Go.RowKit Go.Shelf

attribute [local go_sem] Oper.semAt_some

set_option maxRecDepth 10000 in
theorem belowE_calls (I M : Nat) (hM : Hid (lowm (I : Int) = M)) (w : World) : Calls Tryz.prog 105 #[.int .i64 (I : Int)] w fun e w' => e = .returned (.int .u64 (M : Int)) ∧ w' = w := by
  have hm := hM.out
  go_enter Tryz.func105, Tryz.ntmps105
  by_cases h64 : I < 64
  · have hp : (2 : Nat) ^ I ≤ 9223372036854775808 := Nat.pow_le_pow_right (n := 2) (j := 63) (by decide) (by omega)
    have hp0 : 0 < (2 : Nat) ^ I := Nat.pow_pos (by decide)
    have b : IntKind.u64.wrap (IntKind.u64.wrap ((2 : Int) ^ I) - 1) = (M : Int) := by
      have w1 : IntKind.u64.wrap ((2 : Int) ^ I) = ((2 ^ I : Nat) : Int) := (put_bit (X := 0) (by omega) h64).1
      rw [w1, IntKind.wrap_u64, ← hm, lowm, show min ((I : Nat) : Int).toNat 64 = I by simp; omega]
      omega
    replace b : Hid _ := b
    clear hm hM hp hp0
    go_wp2
    go_ret
    refine ⟨?_, rfl⟩
    first | (rw [b.out]; rfl) | rfl
  · have b : IntKind.u64.wrap (IntKind.u64.wrap ((2 : Int) ^ min I 64) - 1) = (M : Int) := by
      rw [← hm, lowm, show min I 64 = 64 by omega, show min ((I : Nat) : Int).toNat 64 = 64 by simp; omega]
      decide
    replace b : Hid _ := b
    clear hm hM
    go_wp2
    go_ret
    refine ⟨?_, rfl⟩
    first | (rw [b.out]; rfl) | rfl

/-- Between two rounds: the row Y and what is carried. -/
def EsI (w : World) (s : ByteArray) (K : Nat) (pre : List Nat) (W : World) : Prop :=
  ∃ (Y : Nat → Nat) (c : Bool), Hid (pre = List.range pre.length → c = escS s (64 * pre.length) ∧ ∀ j, Y j = escTo s pre.length j) ∧ (At W w.heap.size #[.string s] 9 ∧ At W (w.heap.size + 1) #[.int .i64 0, .slice none 0 0] 81 ∧ At W (w.heap.size + 1 + 1) (rowCells K Y) 49 ∧
    At W (w.heap.size + 1 + 1 + 1) #[.slice (some ⟨w.heap.size + 1 + 1, 0, none⟩) K K] 65 ∧ At W (w.heap.size + 1 + 1 + 1 + 1) #[.bool c] 4 ∧ w.heap.size + 7 ≤ W.heap.size) ∧ Below w.heap.size w W
/-- The frame in which a round's body begins. -/
def EsA (w : World) (s : ByteArray) (K : Nat) (x : Nat) (a' : Act) (W : World) : Prop :=
  ∃ (g A : Nat) (L : List Value), Hid (A = 64 * min x (blocksOf s - 1)) ∧ Hid (L.toArray = arr64 (cutF s (A : Int) 0)) ∧ Hid (L.length = 64) ∧ w.heap.size + 6 < g ∧ At W g L.toArray 71 ∧ a' = { tmps := #[.string s, .pointer (some ⟨w.heap.size, 0, none⟩), .pointer (some ⟨w.heap.size + 1, 0, none⟩), .pointer (some ⟨w.heap.size + 1 + 1 + 1, 0, none⟩), .pointer (some ⟨w.heap.size + 1 + 1 + 1 + 1, 0, none⟩), .int .i64 (A : Int), .pointer (some ⟨g, 0, none⟩), undef, undef, .string s, .int .i64 (s.size : Int), .int .i64 ((s.size : Int) + 63), .int .i64 (K : Int), .slice (some ⟨w.heap.size + 1 + 1, 0, none⟩) K K, .string s, .func (.func 77) #[] #[.pointer (some ⟨w.heap.size + 1 + 1 + 1 + 1 + 1, 0, none⟩), .pointer (some ⟨w.heap.size + 1 + 1 + 1 + 1 + 1 + 1, 0, none⟩)], .int .i64 (A : Int), .agg L.toArray, undef, undef, undef, undef, undef, undef, undef, undef, undef, undef, undef, undef, undef, undef, undef, undef, undef, undef, undef, undef, undef, undef, undef, undef, undef, undef, undef, undef, undef], defers := [] }
section
variable {w : World} {s : ByteArray} {K B : Nat}
theorem esI_own (hB : w.heap.size ≤ B) : OwnFrom B (EsI w s K) := fun t X Z row hs hg hr => by
  obtain ⟨Y, c, hI, ⟨h1, h2, h3, h4, h5, h6⟩, hb⟩ := hs
  have hr' := fun r e => (hr r e).2
  exact ⟨Y, c, hI, ⟨h1.own hg hr', h2.own hg hr', h3.own hg hr', h4.own hg hr', h5.own hg hr', Nat.le_trans h6 hg.size⟩, ownFrom_below (β := List Nat) (Nat.le_refl _) hB t X Z row hb hg hr⟩
theorem esA_own (x : Nat) (a' : Act) : OwnFrom B (fun (_ : Unit) W => EsA w s K x a' W) := fun _ X Y row hs hg hr => by
  obtain ⟨g, A, L, h1, h2, h3, h4, h5, h6⟩ := hs
  exact ⟨g, A, L, h1, h2, h3, h4, h5.own hg (fun r e => (hr r e).2), h6⟩
theorem esI_kept {pre : List Nat} {X Z : World} (h : EsI w s K pre X) (hb : Below X.heap.size X Z) : EsI w s K pre Z := by
  obtain ⟨Y, c, hI, ⟨h1, h2, h3, h4, h5, h6⟩, hB⟩ := h
  exact ⟨Y, c, hI, ⟨h1.keptAll hb, h2.keptAll hb, h3.keptAll hb, h4.keptAll hb, h5.keptAll hb, Nat.le_trans h6 hb.size⟩, hB.trans (hb.mono hB.size)⟩
end
theorem snoc_range {pre : List Nat} {x : Nat} (h : pre ++ [x] = List.range (pre ++ [x]).length) : pre = List.range pre.length ∧ x = pre.length := by
  rw [List.length_append, List.length_singleton, List.range_succ] at h
  have h1 := List.append_inj h (by simp)
  exact ⟨h1.1, by simpa using h1.2⟩

set_option maxRecDepth 100000 in
set_option maxHeartbeats 8000000 in
theorem escapedS_in (s : ByteArray) (hs : s.size ≤ 562949953421312) (w : World) (hT : Tab w) (hw0 : 0 < w.heap.size) :
    CallsIn Fence.wide 3 Tryz.prog 90 #[.string s] w fun e w' => ∃ g, w.heap.size ≤ g ∧ e = .returned (.agg #[.int .i64 (s.size : Int), .slice (some ⟨g, 0, none⟩) (need s.size) (need s.size)]) ∧ At w' g (rowCells (need s.size) (rowOf (escS s) s.size)) 49 ∧ Below w.heap.size w w' := by
  have hnf : ∀ (f : Fn) (a b : Array Value) (w : World), Sem.run Tryz.prog (binOp BinOp.eql 69 (.func f a b) .nilFunc) w = .ok (.bool false) w := fun _ _ _ _ => by rfl
  obtain ⟨K, hK⟩ : ∃ K, Hid (need s.size = K) := ⟨_, rfl⟩
  have hKb : Hid (blocksOf s = K) := hK
  have hKs : (s.size + 63) / 64 = K := hK.out
  have hKi : (((s.size : Int) + 63) / 64) = (K : Int) := by omega
  have hK44 : K ≤ 17592186044416 := by omega
  have hKs' := hid hKs
  have hmake : ∀ u : World, (Instr.makeSlice 65 (.int .i64 (K : Int)) (.int .i64 (K : Int))).run Tryz.prog u = .ok (.slice (some ⟨u.heap.size, 0, none⟩) K K) (u.alloc (.cells (rowCells K (fun _ => 0)) 49)) := make_row K hK44
  clear hKs
  rw [hK.out]
  refine callsIn_of_wp_marks Tryz.func90 rfl trivial ?_ rfl
  simp only [Tryz.ntmps90, List.size_toArray, List.length_cons, List.length_nil, Nat.reduceAdd, Nat.reduceSub, Array.replicate_succ, Array.replicate_zero, List.push_toArray, List.append_toArray, List.nil_append, List.cons_append]
  refine wpIn_wide.2 ?_
  go_wp2
  go_step3
  go_wp2
  go_step3
  go_wp2_with fail
  obtain ⟨X1, hX1⟩ : ∃ X1, X1 = w.alloc (.cells #[.string s] 9) := ⟨_, rfl⟩
  obtain ⟨X2, hX2⟩ : ∃ X2, X2 = X1.alloc (.cells #[.int .i64 0, .slice none 0 0] 81) := ⟨_, rfl⟩
  obtain ⟨X3, hX3⟩ : ∃ X3, X3 = X2.alloc (.cells (rowCells K fun _ => 0) 49) := ⟨_, rfl⟩
  obtain ⟨X4, hX4⟩ : ∃ X4, X4 = X3.alloc (.cells #[.slice (some ⟨w.heap.size + 1 + 1, 0, none⟩) K K] 65) := ⟨_, rfl⟩
  obtain ⟨X5, hX5⟩ : ∃ X5, X5 = X4.alloc (.cells #[.bool false] 4) := ⟨_, rfl⟩
  rw [← hX1, ← hX2, ← hX3, ← hX4, ← hX5]
  have z1 : X1.heap.size = w.heap.size + 1 := by rw [hX1]; simp
  have z2 : X2.heap.size = w.heap.size + 1 + 1 := by rw [hX2, World.size_alloc, z1]
  have z3 : X3.heap.size = w.heap.size + 1 + 1 + 1 := by rw [hX3, World.size_alloc, z2]
  have z4 : X4.heap.size = w.heap.size + 1 + 1 + 1 + 1 := by rw [hX4, World.size_alloc, z3]
  have z5 : X5.heap.size = w.heap.size + 1 + 1 + 1 + 1 + 1 := by rw [hX5, World.size_alloc, z4]
  refine (blocks_calls s 0 _).mono ?_
  rintro e W0 ⟨rfl, hW0⟩
  rw [z5]
  have q5 : Below w.heap.size w X5 := by rw [hX5, hX4, hX3, hX2, hX1]; repeat (first | with_reducible exact Below.refl _ _ | with_reducible refine Below.setCell ?_ (by first | (simp; done) | (simp; omega)) _ | with_reducible refine below_drewN ?_ _ | with_reducible refine Below.alloc ?_ (by first | (simp; done) | (simp; omega)) _ | with_reducible refine Below.drew ?_)
  have q6 : Below X5.heap.size X5 W0 := by rw [hW0]; repeat (first | with_reducible exact Below.refl _ _ | with_reducible refine Below.setCell ?_ (by first | (simp; done) | (simp; omega)) _ | with_reducible refine below_drewN ?_ _ | with_reducible refine Below.alloc ?_ (by first | (simp; done) | (simp; omega)) _ | with_reducible refine Below.drew ?_)
  have a0 : At X5 w.heap.size #[.string s] 9 := by
    rw [hX5, hX4, hX3, hX2, hX1]; exact ((((At.new w _ _).alloc _).alloc _).alloc _).alloc _
  have a1 : At X5 (w.heap.size + 1) #[.int .i64 0, .slice none 0 0] 81 := by
    rw [hX5, hX4, hX3, hX2, ← z1]; exact (((At.new X1 _ _).alloc _).alloc _).alloc _
  have a2 : At X5 (w.heap.size + 1 + 1) (rowCells K fun _ => 0) 49 := by
    rw [hX5, hX4, hX3, ← z2]; exact ((At.new X2 _ _).alloc _).alloc _
  have a3 : At X5 (w.heap.size + 1 + 1 + 1) #[.slice (some ⟨w.heap.size + 1 + 1, 0, none⟩) K K] 65 := by
    rw [hX5, hX4, ← z3]; exact (At.new X3 _ _).alloc _
  have a4 : At X5 (w.heap.size + 1 + 1 + 1 + 1) #[.bool false] 4 := by
    rw [hX5, ← z4]; exact At.new X4 _ _
  have a5 : At W0 (w.heap.size + 1 + 1 + 1 + 1 + 1) #[.string s] 9 := by
    rw [hW0, ← z5]; exact (At.new X5 _ _).alloc _
  have a6 : At W0 (w.heap.size + 1 + 1 + 1 + 1 + 1 + 1) #[.int .u8 ((0 : Nat) : Int)] 5 := by
    have h := At.new (X5.alloc (.cells #[.string s] 9)) #[.int .u8 ((0 : Nat) : Int)] 5
    rw [hW0, ← z5]; simpa using h
  have z0 : W0.heap.size = w.heap.size + 7 := by rw [hW0]; simp only [World.size_alloc, z5]
  have hB0 : Below w.heap.size w W0 := q5.trans (q6.mono q5.size)
  have hI0 : EsI w s K [] W0 := ⟨fun _ => 0, false, fun _ => ⟨rfl, fun j => by unfold escTo; rw [if_neg (by simp)]⟩, ⟨a0.keptAll q6, a1.keptAll q6, a2.keptAll q6, a3.keptAll q6, a4.keptAll q6, by omega⟩, hB0⟩
  clear a0 a1 a2 a3 a4 z1 z2 z3 z4 z5 q5 q6 hW0 hX1 hX2 hX3 hX4 hX5 hmake
  clear X1 X2 X3 X4 X5
  go_wp2_with fail
  refine (wpIn_wide (n := 3)).1 ?_
  refine wpIn_rangeFunc_ownH rfl (n := 3) (by decide) (gf := 77) (lb := #[.pointer (some ⟨w.heap.size + 1 + 1 + 1 + 1 + 1, 0, none⟩), .pointer (some ⟨w.heap.size + 1 + 1 + 1 + 1 + 1 + 1, 0, none⟩)]) rfl trivial (enters_of Tryz.func77 (by kernel_rfl) rfl)
    (blocks_stops_g (3 - 1) (w.heap.size + 1 + 1 + 1 + 1 + 1) (w.heap.size + 1 + 1 + 1 + 1 + 1 + 1) s (by omega) 0 (encL s 0) (fun r h => encL_eq s 0 r h) W0 a5 a6) KeepB.trans (keepB_b (w := W0)) (Below.refl _ _) (fun _ => rfl)
    (EsI w s K) (fun _ _ _ => False) (esI_own hB0.size) (fun _ _ _ _ _ h _ _ => h) hI0 (EsA w s K) (fun x a' => esA_own x a') ?assign ?body ?done ?stop
  case assign =>
    intro l pre x W KK hI hKK
    obtain ⟨A, hA⟩ : ∃ A : Nat, Hid (A = 64 * min x (blocksOf s - 1)) := ⟨_, rfl⟩
    obtain ⟨L, hLt, hLl⟩ := arr64_list (cutF s (A : Int) 0)
    have hL1 := arr64_one _ hLt
    have hiL' : (Tryz.prog.info? 71).map (·.size) = some L.toArray.size := by rw [List.size_toArray, hLl]; exact info64
    have he : encL s 0 x = #[.int .i64 (A : Int), .agg L.toArray] := by rw [hLt, encL, encB, show min (min x (blocksOf s - 1)) (blocksOf s) = min x (blocksOf s - 1) by omega, hA.out]
    rw [he]
    obtain ⟨hth, W2, hW2, hA2, hB2⟩ := laid64 W L hLl
    have hK2 := fun a' => hKK a' W2 ((keeps_below hB2).from _) (KeepB.of_below hB2) (esI_kept hI hB2)
    have hgt : w.heap.size + 6 < W.heap.size := by obtain ⟨_, _, _, ⟨_, _, _, _, _, h6⟩, _⟩ := hI; omega
    have hLH : Hid (L.toArray = arr64 (cutF s (A : Int) 0)) := hLt
    clear hKK hI hLt he
    gi_wp2_with (first | (refine wpListIn_store_want 71 _ _ (W.heap.size) 0 L.toArray hth hiL' (all_oneCell_toArray hL1) rfl rfl rfl (by rfl) ?_))
    exact ⟨W.heap.size, A, L, hA, hLH, hLl, hgt, hA2, rfl⟩
  case body =>
    rintro l pre x a' W hll ⟨rec, hrec⟩ hI ⟨g, A, L, hA, hL, hLl, hg, hAt, rfl⟩ hlt
    obtain ⟨Y, c, hYc, ⟨h0, h1, h2, h3, h4, hzW⟩, hB⟩ := hI
    rw [hKb.out] at hA hlt
    obtain ⟨j, hj⟩ : ∃ j, Hid (min x (K - 1) = j) := ⟨_, rfl⟩
    have hjK : j < K := by have := hj.out; omega
    have hAj : Hid (A = 64 * j) := by show _ = _; rw [← hj.out]; exact hA.out
    have hAlt : A < s.size := by have := hAj.out; have := hKs'.out; omega
    have hL1 := arr64_one _ hL.out
    have hiL : (Tryz.prog.info? 71).map (·.size) = some L.length := by rw [hLl.out]; exact info64
    have r1 := hAt.range rfl
    obtain ⟨M, hM⟩ : ∃ M, Hid (slashW s j = M) := ⟨_, rfl⟩
    have hMl : M < 18446744073709551616 := hM.out ▸ slashW_lt s j
    have hEq : Hid (∀ w, Calls Tryz.prog 91 #[.agg L.toArray, .int .u8 92] w fun e w' => e = .returned (.int .u64 (M : Int)) ∧ Below w.heap.size w w') := fun w => by
      rw [hL.out]
      exact equal_nat (cutF s (A : Int) 0) (fun i => cutF_lt s _ 0 (by decide) i) 92 (by decide) M (by show _ = _; rw [← hM.out, slashW, hAj.out]) w
    have hdone : Hid ((∀ Y' c', Hid (pre ++ [x] = List.range (pre ++ [x]).length → c' = escS s (64 * (pre ++ [x]).length) ∧ ∀ i, Y' i = escTo s (pre ++ [x]).length i) → ∀ W', (At W' w.heap.size #[.string s] 9 ∧ At W' (w.heap.size + 1) #[.int .i64 0, .slice none 0 0] 81 ∧ At W' (w.heap.size + 1 + 1) (rowCells K Y') 49 ∧
    At W' (w.heap.size + 1 + 1 + 1) #[.slice (some ⟨w.heap.size + 1 + 1, 0, none⟩) K K] 65 ∧ At W' (w.heap.size + 1 + 1 + 1 + 1) #[.bool c'] 4 ∧ w.heap.size + 7 ≤ W'.heap.size) ∧ Below w.heap.size w W' → EsI w s K (pre ++ [x]) W')) := fun Y' c' h1 W' h2 => ⟨Y', c', h1, h2.1, h2.2⟩
    have hmath : Hid (pre ++ [x] = List.range (pre ++ [x]).length → (pre ++ [x]).length = j + 1 ∧ c = escS s (64 * j) ∧ ∀ i, Y i = escTo s j i) := by
      intro h
      obtain ⟨e1, e2⟩ := snoc_range h
      obtain ⟨e3, e4⟩ := hYc.out e1
      have e5 : j = pre.length := by have := hj.out; omega
      rw [e5]
      exact ⟨by simp, e3, e4⟩
    clear hYc hA hL hlt hj
    gi_wp2_with (first | (refine wpListIn_load_want 71 _ (g) 0 L _ r1 Tryz.underlying71 hiL rfl rfl rfl (by rfl) ?_))
    refine ⟨trivial, ?_⟩
    refine (CallsIn.inRound l (callsIn_wide.2 (hEq.out _))).mono ?_
    rintro e w1 ⟨rfl, hb1⟩
    replace h0 := h0.keptAll hb1
    replace h1 := h1.keptAll hb1
    replace h2 := h2.keptAll hb1
    replace h3 := h3.keptAll hb1
    replace h4 := h4.keptAll hb1
    have hBW := hB.trans (hb1.mono hB.size)
    have hz1 : w.heap.size + 7 ≤ w1.heap.size := Nat.le_trans hzW hb1.size
    have hKW := keeps_below hb1
    have hKn : KeepB (w.heap.size + 1 + 1 + 1 + 1 + 1) (w.heap.size + 1 + 1 + 1 + 1 + 1 + 1) W w1 := KeepB.of_below hb1
    have k4 := h4.cell 0
    have f4 := h4.frozen 0
    simp only [List.getElem?_toArray, List.getElem?_cons_zero] at k4
    clear hEq r1 hiL hL1 hb1 hAt
    by_cases hskip : M = 0 ∧ c = false
    · obtain ⟨rfl, rfl⟩ := hskip
      have t0 := hid h0
      have t1 := hid h1
      have t2 := hid h2
      have t3 := hid h3
      have t4 := hid h4
      clear h0 h1 h2 h3 h4
      gi_wp2
      refine ⟨hKW.from _, hKn, hdone.out Y false (fun h => ?_) w1 ⟨⟨t0.out, t1.out, t2.out, t3.out, t4.out, hz1⟩, hBW⟩⟩
      obtain ⟨e1, e2, e3⟩ := hmath.out h
      obtain ⟨e4, e5⟩ := esc_skip s j hM.out e2.symm
      rw [e1]
      exact ⟨e5.symm, fun i => (e3 i).trans (escTo_skip s j i e4)⟩
    · have hgd : (((M : Int) == 0) && !c) = false := by
        cases c
        · have : ((M : Int) == 0) = false := by simp at hskip ⊢; exact hskip
          rw [this]; rfl
        · simp
      obtain ⟨S, C, hSC⟩ : ∃ S C, Hid (escW M c = S ∧ escC M c 64 = C) := ⟨_, _, rfl, rfl⟩
      have hSl : S < 18446744073709551616 := hSC.out.1 ▸ escW_lt M c
      obtain ⟨I, hI⟩ : ∃ I, Hid (s.size - A = I) := ⟨_, rfl⟩
      have hIi : (s.size : Int) - (A : Int) = (I : Int) := by have := hI.out; omega
      have hwI : IntKind.i64.wrap (I : Int) = (I : Int) := by rw [IntKind.wrap_i64]; have := hI.out; omega
      obtain ⟨R, hR⟩ : ∃ R, Hid (lowm (I : Int) = R) := ⟨_, rfl⟩
      have hRl : R < 18446744073709551616 := hR.out ▸ lowm_lt _
      have hbe : Hid (∀ w, Calls Tryz.prog 105 #[.int .i64 (I : Int)] w fun e w' => e = .returned (.int .u64 (R : Int)) ∧ w' = w) := fun w => belowE_calls I R hR w
      have hTw : Hid (Tab w1) := hT.below hBW hw0
      have hw1 : Hid (0 < w1.heap.size) := by show 0 < _; omega
      obtain ⟨V, hV⟩ : ∃ V, Hid (S &&& R = V) := ⟨_, rfl⟩
      have hand : bits BinOp.and IntKind.u64 (S : Int) (R : Int) = (V : Int) := by rw [bits_and_u64_nat S R hSl hRl, hV.out]
      have hidx : (A : Int) / 64 = (j : Int) := by have := hAj.out; omega
      have hjKi : (j : Int) < (K : Int) := by omega
      have hwJ : IntKind.i64.wrap (j : Int) = (j : Int) := by rw [IntKind.wrap_i64]; omega
      have hjc : (0 ≤ (j : Int) ∧ (j : Int) < (K : Int)) = True := by simp; omega
      have hfin : Hid (pre ++ [x] = List.range (pre ++ [x]).length → C = escS s (64 * (pre ++ [x]).length) ∧ ∀ i, (if i = j then V else Y i) = escTo s (pre ++ [x]).length i) := by
        intro h
        obtain ⟨e1, e2, e3⟩ := hmath.out h
        obtain ⟨e4, e5⟩ := hSC.out
        rw [e1]
        refine ⟨?_, fun i => ?_⟩
        · rw [← e5, ← hM.out, e2, esc_next]
        · rw [← escTo_set, e3, ← hV.out, ← e4, ← hR.out, ← hM.out, e2]
          have := escW_row s j
          rw [show (s.size : Int) - 64 * (j : Int) = (I : Int) by have := hAj.out; omega] at this
          rw [this]
      clear hmath hI hM hV hR hAj
      have hcs : (((M : Int) == 0) = false) ∨ (M = 0 ∧ c = true) := by
        cases c
        · left; simp at hskip ⊢; exact hskip
        · by_cases h : M = 0
          · exact .inr ⟨h, rfl⟩
          · left; simp; exact h
      clear hskip hgd
      have hcall : Hid (Calls Tryz.prog 104 #[.int .u64 (M : Int), .bool c] w1 fun e w' => e = .returned (.tuple #[.int .u64 (S : Int), .bool C]) ∧ Below w1.heap.size w1 w') := escaped_calls M S c C hMl hSC w1 hTw.out hw1.out
      clear hSC hTw hw1
      rcases hcs with hM0 | ⟨rfl, rfl⟩
      all_goals
        gi_wp2_with fail
        refine ⟨trivial, ?_⟩
        refine (CallsIn.inRound l (callsIn_wide.2 hcall.out)).mono ?_
        rintro e w2 ⟨rfl, hb2⟩
        have g0 := (h0.keptAll hb2).other (p := ⟨w.heap.size + 1 + 1 + 1 + 1, 0, none⟩) (by show w.heap.size ≠ w.heap.size + 1 + 1 + 1 + 1; omega) (.bool C)
        have g1 := (h1.keptAll hb2).other (p := ⟨w.heap.size + 1 + 1 + 1 + 1, 0, none⟩) (by show w.heap.size + 1 ≠ w.heap.size + 1 + 1 + 1 + 1; omega) (.bool C)
        have g2 := (h2.keptAll hb2).other (p := ⟨w.heap.size + 1 + 1 + 1 + 1, 0, none⟩) (by show w.heap.size + 1 + 1 ≠ w.heap.size + 1 + 1 + 1 + 1; omega) (.bool C)
        have g3 := (h3.keptAll hb2).other (p := ⟨w.heap.size + 1 + 1 + 1 + 1, 0, none⟩) (by show w.heap.size + 1 + 1 + 1 ≠ w.heap.size + 1 + 1 + 1 + 1; omega) (.bool C)
        have g4 := (h4.keptAll hb2).set 0 (.bool C)
        have f4' := (h4.keptAll hb2).frozen 0
        have c4' := (h4.keptAll hb2).cell 0
        have hBt := (hBW.trans (hb2.mono hBW.size)).setCell (p := ⟨w.heap.size + 1 + 1 + 1 + 1, 0, none⟩) (by show w.heap.size ≤ w.heap.size + 1 + 1 + 1 + 1; omega) (.bool C)
        have hKt := (hKW.trans (keeps_below hb2)).trans (KeepsOthers.setCell w2 ⟨w.heap.size + 1 + 1 + 1 + 1, 0, none⟩ (.bool C))
        have hKk : KeepB (w.heap.size + 1 + 1 + 1 + 1 + 1) (w.heap.size + 1 + 1 + 1 + 1 + 1 + 1) W (w2.setCell ⟨w.heap.size + 1 + 1 + 1 + 1, 0, none⟩ (.bool C)) :=
          (hKn.trans (KeepB.of_below hb2)).trans ⟨(KeepsOthers.setCell w2 ⟨w.heap.size + 1 + 1 + 1 + 1, 0, none⟩ (.bool C)).1, fun _ _ q => q.other (p := ⟨w.heap.size + 1 + 1 + 1 + 1, 0, none⟩) (by show w.heap.size + 1 + 1 + 1 + 1 + 1 ≠ w.heap.size + 1 + 1 + 1 + 1; omega) _, fun _ _ q => q.other (p := ⟨w.heap.size + 1 + 1 + 1 + 1, 0, none⟩) (by show w.heap.size + 1 + 1 + 1 + 1 + 1 + 1 ≠ w.heap.size + 1 + 1 + 1 + 1; omega) _⟩
        have hzt : w.heap.size + 7 ≤ (w2.setCell ⟨w.heap.size + 1 + 1 + 1 + 1, 0, none⟩ (.bool C)).heap.size := Nat.le_trans hz1 (Nat.le_trans hb2.size (KeepsOthers.setCell w2 ⟨w.heap.size + 1 + 1 + 1 + 1, 0, none⟩ (.bool C)).1)
        simp only [List.setIfInBounds_toArray, List.set_cons_zero] at g4
        simp only [List.getElem?_toArray, List.getElem?_cons_zero] at c4'
        clear h0 h1 h2 h3 h4 hBW hKW hKn hz1 hb2 hcall k4 f4
        obtain ⟨W3, hW3⟩ : ∃ W3, w2.setCell ⟨w.heap.size + 1 + 1 + 1 + 1, 0, none⟩ (.bool C) = W3 := ⟨_, rfl⟩
        rw [hW3] at g0 g1 g2 g3 g4 hBt hKt hKk hzt
        gi_wp2_with fail
        clear f4' c4' hW3
        have s3 := g3.cell 0
        have s0 := g0.cell 0
        simp only [List.getElem?_toArray, List.getElem?_cons_zero] at s0 s3
        have cj := g2.cell j
        have fj := g2.frozen j
        rw [rowCells_get Y hjK] at cj
        refine wpIn_region_round (S := fun w' => w'.cell? ⟨w.heap.size, 0, none⟩ = some (.string s) ∧ w'.cell? ⟨w.heap.size + 1 + 1 + 1, 0, none⟩ = some (.slice (some ⟨w.heap.size + 1 + 1, 0, none⟩) K K)) (by kernel_rfl) (by kernel_rfl) (fun _ _ h => h) ⟨s0, s3⟩ (fun hHeld => ?_)
        (refine' wpAnyH_take (i := 0) rfl (by kernel_rfl) (by kernel_rfl) (by kernel_rfl) (fun _ _ _ h => h) (Or.inl ⟨by rfl, ?_⟩) (by assumption) ?_; rotate_left; (· (intro wq hq; (try dsimp only at hq); go_simp; first | done | with_reducible rfl)); simp only [Act.put, List.getElem_toArray, List.getElem_cons_zero, List.setIfInBounds_toArray, List.set_cons_zero, List.set_cons_succ])
        (refine' wpAnyH_take (i := 1) rfl (by kernel_rfl) (by kernel_rfl) (by kernel_rfl) (fun _ _ _ h => h) (Or.inl ⟨by rfl, ?_⟩) (by assumption) ?_; rotate_left; (· (intro wq hq; (try dsimp only at hq); go_simp; first | done | with_reducible rfl)); simp only [Act.put, List.getElem_toArray, List.getElem_cons_zero, List.getElem_cons_succ, List.setIfInBounds_toArray, List.set_cons_zero, List.set_cons_succ])
        (refine' wpAnyH_take (i := 2) rfl (by kernel_rfl) (by kernel_rfl) (by kernel_rfl) (fun _ _ _ h => h) (Or.inl ⟨by rfl, ?_⟩) (by assumption) ?_; rotate_left; (· (intro wq hq; (try dsimp only at hq); go_simp; first | done | with_reducible rfl)); simp only [Act.put, List.getElem_toArray, List.getElem_cons_zero, List.getElem_cons_succ, List.setIfInBounds_toArray, List.set_cons_zero, List.set_cons_succ])
        (refine' wpAnyH_take (i := 3) rfl (by kernel_rfl) (by kernel_rfl) (by kernel_rfl) (fun _ _ _ h => h) (Or.inl ⟨by rfl, ?_⟩) (by assumption) ?_; rotate_left; (· (intro wq hq; (try dsimp only at hq); go_simp; first | done | with_reducible rfl)); simp only [Act.put, List.getElem_toArray, List.getElem_cons_zero, List.getElem_cons_succ, List.setIfInBounds_toArray, List.set_cons_zero, List.set_cons_succ])
        (refine' wpAnyH_take (i := 4) rfl (by kernel_rfl) (by kernel_rfl) (by kernel_rfl) (fun _ _ _ h => h) (Or.inl ⟨by rfl, ?_⟩) (by assumption) ?_; rotate_left; (· (intro wq hq; (try dsimp only at hq); go_simp; first | done | with_reducible rfl)); simp only [Act.put, List.getElem_toArray, List.getElem_cons_zero, List.getElem_cons_succ, List.setIfInBounds_toArray, List.set_cons_zero, List.set_cons_succ])
        (refine' wpAnyH_take (i := 5) rfl (by kernel_rfl) (by kernel_rfl) (by kernel_rfl) (fun _ _ _ h => h) (Or.inl ⟨by rfl, ?_⟩) (by assumption) ?_; rotate_left; (· (intro wq hq; (try dsimp only at hq); go_simp; first | done | with_reducible rfl)); simp only [Act.put, List.getElem_toArray, List.getElem_cons_zero, List.getElem_cons_succ, List.setIfInBounds_toArray, List.set_cons_zero, List.set_cons_succ])
        (refine' wpAnyH_take (i := 6) rfl (by kernel_rfl) (by kernel_rfl) (by kernel_rfl) (fun _ _ _ h => h) (Or.inl ⟨by rfl, ?_⟩) (by assumption) ?_; rotate_left; (· (intro wq hq; (try dsimp only at hq); go_simp; first | done | with_reducible rfl)); simp only [Act.put, List.getElem_toArray, List.getElem_cons_zero, List.getElem_cons_succ, List.setIfInBounds_toArray, List.set_cons_zero, List.set_cons_succ])
        (refine' wpAnyH_take (i := 7) rfl (by kernel_rfl) (by kernel_rfl) (by kernel_rfl) (fun _ _ _ h => h) (Or.inl ⟨by rfl, ?_⟩) (by assumption) ?_; rotate_left; (· (intro wq hq; (try dsimp only at hq); go_simp; first | done | with_reducible rfl)); simp only [Act.put, List.getElem_toArray, List.getElem_cons_zero, List.getElem_cons_succ, List.setIfInBounds_toArray, List.set_cons_zero, List.set_cons_succ])
        refine wpAnyH_ready (rs := [8]) (by kernel_rfl) (by simp) ?_
        refine AllReadyH.cons rfl (fun K hK => ?_) ?_
        · rw [if_pos (by rfl)]
          go_simp
          refine (hbe.out _).mono ?_
          rintro e wq ⟨rfl, hwq⟩
          rw [hwq]
          clear hwq
          refine hK.out _ _ hHeld (fun hH => ?_)
          clear hK K
          (refine' wpAnyH_take (i := 9) rfl (by kernel_rfl) (by kernel_rfl) (by kernel_rfl) (fun _ _ _ h => h) (Or.inl ⟨by rfl, ?_⟩) (by assumption) ?_; rotate_left; (· (intro wq hq; (try dsimp only at hq); go_simp; first | done | with_reducible rfl)); simp only [Act.put, List.getElem_toArray, List.getElem_cons_zero, List.getElem_cons_succ, List.setIfInBounds_toArray, List.set_cons_zero, List.set_cons_succ])
          (refine' wpAnyH_take (i := 10) rfl (by kernel_rfl) (by kernel_rfl) (by kernel_rfl) (fun _ _ _ h => h) (Or.inl ⟨by rfl, ?_⟩) (by assumption) ?_; rotate_left; (· (intro wq hq; (try dsimp only at hq); go_simp; first | done | with_reducible rfl)); simp only [Act.put, List.getElem_toArray, List.getElem_cons_zero, List.getElem_cons_succ, List.setIfInBounds_toArray, List.set_cons_zero, List.set_cons_succ])
          refine wpAnyH_ready (rs := [11]) (by kernel_rfl) (by simp) ?_
          refine AllReadyH.cons rfl (fun K hK => ?_) ?_
          · go_simp
            have p0 := g0.other (p := ⟨w.heap.size + 1 + 1, j, none⟩) (by show w.heap.size ≠ w.heap.size + 1 + 1; omega) (.int .u64 (V : Int))
            have p1 := g1.other (p := ⟨w.heap.size + 1 + 1, j, none⟩) (by show w.heap.size + 1 ≠ w.heap.size + 1 + 1; omega) (.int .u64 (V : Int))
            have p2 := g2.set j (.int .u64 (V : Int))
            have p3 := g3.other (p := ⟨w.heap.size + 1 + 1, j, none⟩) (by show w.heap.size + 1 + 1 + 1 ≠ w.heap.size + 1 + 1; omega) (.int .u64 (V : Int))
            have p4 := g4.other (p := ⟨w.heap.size + 1 + 1, j, none⟩) (by show w.heap.size + 1 + 1 + 1 + 1 ≠ w.heap.size + 1 + 1; omega) (.int .u64 (V : Int))
            rw [rowCells_set] at p2
            have c0 := p0.cell 0
            have c3 := p3.cell 0
            simp only [List.getElem?_toArray, List.getElem?_cons_zero] at c0 c3
            refine hK.out _ _ ⟨c0, c3⟩ (fun hH2 => ?_)
            clear hK K
            refine wpAnyH_done (by kernel_rfl) ?_ _
            change Exit.inBlock 1 _ Exit.normal _ _
            have hKs2 := (KeepsOthers.setCell W3 ⟨w.heap.size + 1 + 1, j, none⟩ (.int .u64 (V : Int))).trans (KeepsOthers.drew _)
            refine ⟨(hKt.trans hKs2).from _, hKk.trans ⟨hKs2.1, fun _ _ q => q.other (p := ⟨w.heap.size + 1 + 1, j, none⟩) (by show w.heap.size + 1 + 1 + 1 + 1 + 1 ≠ w.heap.size + 1 + 1; omega) _, fun _ _ q => q.other (p := ⟨w.heap.size + 1 + 1, j, none⟩) (by show w.heap.size + 1 + 1 + 1 + 1 + 1 + 1 ≠ w.heap.size + 1 + 1; omega) _⟩, hdone.out _ C hfin _ ⟨⟨p0.drew, p1.drew, p2.drew, p3.drew, p4.drew, Nat.le_trans hzt hKs2.1⟩, (hBt.setCell (p := ⟨w.heap.size + 1 + 1, j, none⟩) (by show w.heap.size ≤ w.heap.size + 1 + 1; omega) _).drew⟩⟩
          · exact AllReadyH.nil
        · exact AllReadyH.nil
  case done =>
    rintro D xs W hD rfl ⟨Y, c, hYc, ⟨h0, h1, h2, h3, h4, hzW⟩, hB⟩ hKD
    rw [hKb.out] at hYc
    have hY := (hYc.out (by simp)).2
    have hrow : rowCells K Y = rowCells K (rowOf (escS s) s.size) := rowCells_congr fun i hi => by
      rw [hY i]
      unfold escTo
      rw [List.length_range, if_pos hi]
    rw [hrow] at h2
    have k0 := h0.cell 0
    have k3 := h3.cell 0
    obtain ⟨d0, d1, f0, f1⟩ := h1.facts
    simp only [List.getElem?_toArray, List.getElem?_cons_zero] at k0 k3
    rename_i Kz hKz
    clear hYc h0 h3 h4 hI0 hnf
    refine hKz _ _ ?_
    go_wp2
    rw [Exit.noGoto_ret]
    obtain ⟨X, hX⟩ : ∃ X, (W.setCell ⟨w.heap.size + 1, 0, none⟩ (.int .i64 (s.size : Int))).setCell ⟨w.heap.size + 1, 1, none⟩ (.slice (some ⟨w.heap.size + 1 + 1, 0, none⟩) K K) = X := ⟨_, rfl⟩
    have x1 : At X (w.heap.size + 1) #[.int .i64 (s.size : Int), .slice (some ⟨w.heap.size + 1 + 1, 0, none⟩) K K] 81 := by rw [← hX]; exact h1.two
    have x2 : At X (w.heap.size + 1 + 1) (rowCells K (rowOf (escS s) s.size)) 49 := by
      rw [← hX]
      exact (h2.other (p := ⟨w.heap.size + 1, 0, none⟩) (by show w.heap.size + 1 + 1 ≠ w.heap.size + 1; omega) _).other (p := ⟨w.heap.size + 1, 1, none⟩) (by show w.heap.size + 1 + 1 ≠ w.heap.size + 1; omega) _
    have x3 : X.heap[D]? = some (.deferred (some [])) := by
      rw [← hX]
      exact (Below.heap_setCell _ _ _ D (by show D ≠ w.heap.size + 1; omega)).trans ((Below.heap_setCell _ _ _ D (by show D ≠ w.heap.size + 1; omega)).trans hKD)
    have x4 : Below w.heap.size w X := by
      rw [← hX]
      exact (hB.setCell (p := ⟨w.heap.size + 1, 0, none⟩) (by show w.heap.size ≤ w.heap.size + 1; omega) _).setCell (p := ⟨w.heap.size + 1, 1, none⟩) (by show w.heap.size ≤ w.heap.size + 1; omega) _
    rw [hX]
    refine ⟨by simp, .inl ⟨_, _, rfl, run_takeDeferred (w := X) x3, ?_⟩⟩
    have y1 := x1.own (grownBy_putObj' X D (.deferred none)) (fun r e => by cases e; exact ⟨_, x3, rfl⟩)
    have y2 := x2.own (grownBy_putObj' X D (.deferred none)) (fun r e => by cases e; exact ⟨_, x3, rfl⟩)
    have y4 : Below w.heap.size w (X.putObj D (.deferred none)) := x4.trans (belowK_b (w := w) (Nat.le_refl _) X D _ _ (by omega) x3 rfl rfl)
    exact ⟨_, results_cell_row (P := Tryz.prog) (p := 2) rfl _ _ (w.heap.size + 1) 81 #[.int .i64 (s.size : Int), .slice (some ⟨w.heap.size + 1 + 1, 0, none⟩) K K] (0, 0) _ rfl y1 Tryz.underlying81 rfl sizeBits, ⟨_, by omega, rfl, y2, y4⟩⟩
  case stop =>
    rintro D c pre W _ _ h _
    exact h.elim
theorem escapedS_calls (s : ByteArray) (hs : s.size ≤ 562949953421312) (w : World) (hT : Tab w) (hw0 : 0 < w.heap.size) :
    Calls Tryz.prog 90 #[.string s] w fun e w' => ∃ g, w.heap.size ≤ g ∧ e = .returned (.agg #[.int .i64 (s.size : Int), .slice (some ⟨g, 0, none⟩) (need s.size) (need s.size)]) ∧ At w' g (rowCells (need s.size) (rowOf (escS s) s.size)) 49 ∧ Below w.heap.size w w' := callsIn_wide.1 (escapedS_in s hs w hT hw0)
end Go.Proofs.YtlckhiflhnlgpaaGreatDoor

/-
  What quarryref06.Escaped answers.
-/
namespace Go.Proofs.YtlckhiflhnlgpaaGreatDoor
open Go.RowKit

end Go.Proofs.YtlckhiflhnlgpaaGreatDoor

/-
  What the walks through the laws of escape share.
-/
namespace Go.Proofs.YtlckhiflhnlgpaaGreatDoor
open Go.RowKit

theorem wf_size {n : Nat} (h : n ≤ 562949953421312) : (Lit.int .i64 (n : Int)).wf = true := by
  simp [Lit.wf, IntKind.min, IntKind.max, IntKind.bits, IntKind.signed]
  omega
theorem need_le {n : Nat} (h : n ≤ 562949953421312) : need n ≤ 17592186044416 := by unfold need; omega
end Go.Proofs.YtlckhiflhnlgpaaGreatDoor
