/-
  What marks.parts answers.
-/
import Derived.Test.YtomeaejjdjidlaaDoorPartC
namespace Go.Proofs.YtomeaejjdjidlaaDoor
open Go.RowKit Go.Shelf

attribute [local go_sem] Oper.semAt_some

theorem madeParts (K : Nat) : madeCells #[.int .u64 0, .int .u64 0, .int .u64 0, .int .u64 0, .int .u64 0] (K * 5) = rowCells (K * 5) (fun _ => 0) := by
  apply Array.ext_getElem?
  intro i
  by_cases hi : i < K * 5
  · rw [rowCells_get _ hi]
    have h5 : i % 5 < 5 := Nat.mod_lt _ (by decide)
    simp only [madeCells, Array.getElem?_map, Array.getElem?_range, hi, ↓reduceIte, Option.map_some, List.size_toArray, List.length_cons, List.length_nil]
    generalize i % (0 + 1 + 1 + 1 + 1 + 1) = m at *
    obtain rfl | rfl | rfl | rfl | rfl : m = 0 ∨ m = 1 ∨ m = 2 ∨ m = 3 ∨ m = 4 := by omega
    all_goals rfl
  · rw [Array.getElem?_eq_none (by simp [madeCells]; omega), Array.getElem?_eq_none (by rw [rowCells_size]; omega)]
theorem infoP : (Tryd.prog.info? 67).map (fun i => (i.zero, i.size, i.bytes)) = some (some (.agg #[.int .u64 0, .int .u64 0, .int .u64 0, .int .u64 0, .int .u64 0]), 5, 40) := by kernel_rfl
theorem make_parts (K : Nat) (hK : K ≤ 2199023255552) (u : World) : (Instr.makeSlice 64 (.int .i64 (K : Int)) (.int .i64 (K : Int))).run Tryd.prog u =
    .ok (.slice (some ⟨u.heap.size, 0, none⟩) K K) (u.alloc (.cells (rowCells (K * 5) (fun _ => 0)) 67)) := by
  obtain ⟨i0, hi, hz0, hz1, hz2⟩ := info_parts infoP
  have h := run_make (P := Tryd.prog) u 64 67 i0 (.agg #[.int .u64 0, .int .u64 0, .int .u64 0, .int .u64 0, .int .u64 0]) Tryd.underlying64 hi hz0 .i64 .i64 (K : Int) (K : Int) (by omega) (Int.le_refl _) (by rw [hz2]; omega) (by omega)
  rw [Int.toNat_natCast] at h
  rw [h, ← madeParts]
  simp [hz1, Value.cells]

/-- Between two rounds. -/
def PtI (w : World) (s : ByteArray) (K : Nat) (o1 o2 : Option Addr) (b : Nat) (r : Nat) (W : World) : Prop :=
  (At W b #[.slice o1 K K] 32 ∧ At W (b + 1) #[.slice o2 K K] 32 ∧ At W (b + 1 + 1) (rowCells (K * 5) (ptUp s r)) 67 ∧ At W (b + 1 + 1 + 1) #[.slice (some ⟨b + 1 + 1, 0, none⟩) K K] 64 ∧
    At W (b + 1 + 1 + 1 + 1) #[.int .u64 ((cyS s r : Nat) : Int)] 22 ∧ Own w.heap.size W o1 K (rowOf (opnS s) s.size) ∧ Own w.heap.size W o2 K (rowOf (outS s) s.size) ∧ b + 7 ≤ W.heap.size ∧ TabM W) ∧ Below w.heap.size w W

/-- The frame in which a round's body begins. -/
def PtA (s : ByteArray) (K : Nat) (o1 o2 : Option Addr) (b : Nat) (x : Nat) (a' : Act) (W : World) : Prop :=
  ∃ (gx A : Nat) (L : List Value), Hid (A = 64 * x) ∧ Hid (L.toArray = arr64 (cutF s (A : Int) 0)) ∧ Hid (L.length = 64) ∧ b + 7 ≤ gx ∧ At W gx L.toArray 80 ∧ a' = { tmps := #[.string s, undef, .slice none 0 0, .pointer (some ⟨b, 0, none⟩), .pointer (some ⟨b + 1, 0, none⟩), .pointer (some ⟨b + 1 + 1 + 1, 0, none⟩), .pointer (some ⟨b + 1 + 1 + 1 + 1, 0, none⟩), .int .i64 (A : Int), .pointer (some ⟨gx, 0, none⟩), undef, .tuple #[.slice o1 K K, .slice o2 K K], .string s, .tuple #[.slice o1 K K, .slice o2 K K], .slice o1 K K, .slice o2 K K, .slice o2 K K, .int .i64 (K : Int), .slice (some ⟨b + 1 + 1, 0, none⟩) K K, .string s, .func (.func 71) #[] #[.pointer (some ⟨b + 1 + 1 + 1 + 1 + 1, 0, none⟩), .pointer (some ⟨b + 1 + 1 + 1 + 1 + 1 + 1, 0, none⟩)], .int .i64 (A : Int), .agg L.toArray, undef, undef, undef, undef, undef, undef, undef, undef, undef, undef, undef, undef, undef, undef, undef, undef, undef, undef, undef, undef, undef, undef, undef, undef, undef, undef, undef, undef, undef, undef, undef], defers := [] }
theorem own_lt {B : Nat} {w : World} {so : Option Addr} {r : Nat} {Z : Nat → Nat} (h : Own B w so r Z) (g : Nat) (e : so = some ⟨g, 0, none⟩) : g < w.heap.size := by
  subst e
  rcases h with ⟨h, _⟩ | ⟨g', h1, _, h3⟩
  · cases h
  · cases h1
    exact h3.lt
theorem five_facts {w : World} {b : Nat} {x0 x1 x2 x3 x4 : Value} {t : TypeId} (h : At w b #[x0, x1, x2, x3, x4] t) : w.cell? ⟨b, 0, none⟩ = some x0 ∧ w.cell? ⟨b, 1, none⟩ = some x1 ∧ w.cell? ⟨b, 2, none⟩ = some x2 ∧ w.cell? ⟨b, 3, none⟩ = some x3 ∧ w.cell? ⟨b, 4, none⟩ = some x4 ∧ w.frozen? ⟨b, 3, none⟩ = false ∧ w.frozen? ⟨b, 4, none⟩ = false := ⟨h.cell 0, h.cell 1, h.cell 2, h.cell 3, h.cell 4, h.frozen 3, h.frozen 4⟩
theorem keepB_set {Bs Bp : Nat} {X : World} {p : Addr} {v : Value} (h1 : Bs ≠ p.block) (h2 : Bp ≠ p.block) : KeepB Bs Bp X (X.setCell p v) := ⟨(KeepsOthers.setCell X p v).1, fun _ _ q => q.other h1 v, fun _ _ q => q.other h2 v⟩
theorem At.five_other {w : World} {b q : Nat} {cs : Array Value} {t : TypeId} (h : At w b cs t) (hq : b ≠ q) (o : Nat) (y0 y1 y2 y3 y4 : Value) : At (((((w.setCell ⟨q, o, none⟩ y0).setCell ⟨q, o + 1, none⟩ y1).setCell ⟨q, o + 2, none⟩ y2).setCell ⟨q, o + 3, none⟩ y3).setCell ⟨q, o + 4, none⟩ y4) b cs t :=
  ((((h.other (p := ⟨q, o, none⟩) hq _).other (p := ⟨q, o + 1, none⟩) hq _).other (p := ⟨q, o + 2, none⟩) hq _).other (p := ⟨q, o + 3, none⟩) hq _).other (p := ⟨q, o + 4, none⟩) hq _
theorem Own.five_other {B q : Nat} {w : World} {so : Option Addr} {r : Nat} {Z : Nat → Nat} (h : Own B w so r Z) (hq : ∀ g, so = some ⟨g, 0, none⟩ → g ≠ q) (o : Nat) (y0 y1 y2 y3 y4 : Value) : Own B (((((w.setCell ⟨q, o, none⟩ y0).setCell ⟨q, o + 1, none⟩ y1).setCell ⟨q, o + 2, none⟩ y2).setCell ⟨q, o + 3, none⟩ y3).setCell ⟨q, o + 4, none⟩ y4) so r Z := by
  rcases h with h | ⟨g, h1, h2, h3⟩
  · exact .inl h
  · exact .inr ⟨g, h1, h2, h3.five_other (hq g h1) o _ _ _ _ _⟩
section
variable {w : World} {s : ByteArray} {K b B : Nat} {o1 o2 : Option Addr}
theorem own_own {B0 : Nat} {X Z : World} {so : Option Addr} {r : Nat} {Y : Nat → Nat} {row : Option Nat} (h : Own B0 X so r Y) (hg : X.grownBy Z row) (hr : ∀ r, row = some r → ∃ o : Obj, X.heap[r]? = some o ∧ o.isCells = false) : Own B0 Z so r Y := by
  rcases h with h | ⟨g, h1, h2, h3⟩
  · exact .inl h
  · exact .inr ⟨g, h1, h2, h3.own hg hr⟩
theorem ptI_own (hB : w.heap.size ≤ B) (hw : 1 < w.heap.size) : OwnFrom B (PtI w s K o1 o2 b) := fun t X Z row hs hg hr => by
  obtain ⟨⟨h1, h2, h3, h4, h5, h6, h7, h8, h9⟩, hb⟩ := hs
  have hr' := fun r e => (hr r e).2
  have hbz := ownFrom_below (β := List Nat) (Nat.le_refl w.heap.size) hB [] X Z row hb hg hr
  refine ⟨⟨h1.own hg hr', h2.own hg hr', h3.own hg hr', h4.own hg hr', h5.own hg hr', own_own h6 hg hr', own_own h7 hg hr', Nat.le_trans h8 hg.size, fun j hj => ?_⟩, hbz⟩
  have e1 := hb.cell (p := ⟨1, j, none⟩) hw
  have e2 := hbz.cell (p := ⟨1, j, none⟩) hw
  rw [e2, ← e1]
  exact h9 j hj
theorem ptA_own (x : Nat) (a' : Act) : OwnFrom B (fun (_ : Unit) W => PtA s K o1 o2 b x a' W) := fun _ X Y row hs hg hr => by
  obtain ⟨gx, A, L, h1, h2, h3, h4, h5, h6⟩ := hs
  exact ⟨gx, A, L, h1, h2, h3, h4, h5.own hg (fun r e => (hr r e).2), h6⟩
theorem ptI_kept {r : Nat} {X Z : World} (h : PtI w s K o1 o2 b r X) (hb : Below X.heap.size X Z) : PtI w s K o1 o2 b r Z := by
  obtain ⟨⟨h1, h2, h3, h4, h5, h6, h7, h8, h9⟩, hB⟩ := h
  exact ⟨⟨h1.keptAll hb, h2.keptAll hb, h3.keptAll hb, h4.keptAll hb, h5.keptAll hb, h6.kept hb, h7.kept hb, Nat.le_trans h8 hb.size, h9.below hb (by omega)⟩, hB.trans (hb.mono hB.size)⟩
end

set_option maxRecDepth 100000 in
set_option maxHeartbeats 8000000 in
theorem parts_in (s : ByteArray) (hs : s.size ≤ 140737488355328) (w : World) (hT : Tab w) (hM : TabM w) (hw0 : 1 < w.heap.size) :
    CallsIn Fence.wide 3 Tryd.prog 34 #[.string s] w fun e w' => ∃ g, w.heap.size ≤ g ∧ e = .returned (.slice (some ⟨g, 0, none⟩) (need s.size) (need s.size)) ∧ At w' g (rowCells (need s.size * 5) (ptZ s)) 67 ∧ Below w.heap.size w w' := by
  have hnf : ∀ (f : Fn) (a b : Array Value) (w : World), Sem.run Tryd.prog (binOp BinOp.eql 92 (.func f a b) .nilFunc) w = .ok (.bool false) w := fun _ _ _ _ => by rfl
  obtain ⟨K, hK⟩ : ∃ K, Hid (need s.size = K) := ⟨_, rfl⟩
  have hsd := hid (fun (w1 : World) (hb : Below w.heap.size w w1) => sides_calls s (by omega) K hK w1 (hT.below hb (by omega)) (by have := hb.size; omega))
  have hKb : Hid (blocksOf s = K) := hK
  have hKs : (s.size + 63) / 64 = K := hK.out
  have hK44 : K ≤ 2199023255552 := by omega
  have hKs' := hid hKs
  have hmake : ∀ u : World, (Instr.makeSlice 64 (.int .i64 (K : Int)) (.int .i64 (K : Int))).run Tryd.prog u = .ok (.slice (some ⟨u.heap.size, 0, none⟩) K K) (u.alloc (.cells (rowCells (K * 5) (fun _ => 0)) 67)) := make_parts K hK44
  clear hKs
  rw [hK.out]
  clear hT
  refine callsIn_of_wp_marks Tryd.func34 rfl trivial ?_ rfl
  simp only [Tryd.ntmps34, List.size_toArray, List.length_cons, List.length_nil, Nat.reduceAdd, Nat.reduceSub, Array.replicate_succ, Array.replicate_zero, List.push_toArray, List.append_toArray, List.nil_append, List.cons_append]
  refine wpIn_wide.2 ?_
  go_wp2_with fail
  refine Calls.mono (hsd.out _ (by repeat (first | with_reducible exact Below.refl _ _ | with_reducible refine Below.setCell ?_ (by first | (simp; done) | (simp; omega)) _ | with_reducible refine below_drewN ?_ _ | with_reducible refine Below.alloc ?_ (by first | (simp; done) | (simp; omega)) _ | with_reducible refine Below.drew ?_))) ?_
  rintro e w1 ⟨o1, o2, rfl, ho1, ho2, hB1⟩
  clear hsd
  have hM' := hid hM
  clear hM
  go_wp2_with fail
  obtain ⟨b, hbe⟩ : ∃ b, w1.heap.size = b := ⟨_, rfl⟩
  obtain ⟨X1, hX1⟩ : ∃ X1, X1 = w1.alloc (.cells #[.slice o1 K K] 32) := ⟨_, rfl⟩
  obtain ⟨X2, hX2⟩ : ∃ X2, X2 = X1.alloc (.cells #[.slice o2 K K] 32) := ⟨_, rfl⟩
  obtain ⟨X3, hX3⟩ : ∃ X3, X3 = X2.alloc (.cells (rowCells (K * 5) fun _ => 0) 67) := ⟨_, rfl⟩
  obtain ⟨X4, hX4⟩ : ∃ X4, X4 = X3.alloc (.cells #[.slice (some ⟨w1.heap.size + 1 + 1, 0, none⟩) K K] 64) := ⟨_, rfl⟩
  obtain ⟨X5, hX5⟩ : ∃ X5, X5 = X4.alloc (.cells #[.int .u64 0] 22) := ⟨_, rfl⟩
  rw [← hX1, ← hX2, ← hX3, ← hX4, ← hX5]
  rw [hbe] at hX4 ⊢
  have z1 : X1.heap.size = b + 1 := by rw [hX1, World.size_alloc, hbe]
  have z2 : X2.heap.size = b + 1 + 1 := by rw [hX2, World.size_alloc, z1]
  have z3 : X3.heap.size = b + 1 + 1 + 1 := by rw [hX3, World.size_alloc, z2]
  have z4 : X4.heap.size = b + 1 + 1 + 1 + 1 := by rw [hX4, World.size_alloc, z3]
  have z5 : X5.heap.size = b + 1 + 1 + 1 + 1 + 1 := by rw [hX5, World.size_alloc, z4]
  refine (blocks_calls s 0 _).mono ?_
  rintro e W0 ⟨rfl, hW0⟩
  rw [z5]
  have q4 : Below w1.heap.size w1 X5 := by rw [hX5, hX4, hX3, hX2, hX1]; repeat (first | with_reducible exact Below.refl _ _ | with_reducible refine Below.setCell ?_ (by first | (simp; done) | (simp; omega)) _ | with_reducible refine below_drewN ?_ _ | with_reducible refine Below.alloc ?_ (by first | (simp; done) | (simp; omega)) _ | with_reducible refine Below.drew ?_)
  have q5 : Below X5.heap.size X5 W0 := by rw [hW0]; repeat (first | with_reducible exact Below.refl _ _ | with_reducible refine Below.setCell ?_ (by first | (simp; done) | (simp; omega)) _ | with_reducible refine below_drewN ?_ _ | with_reducible refine Below.alloc ?_ (by first | (simp; done) | (simp; omega)) _ | with_reducible refine Below.drew ?_)
  have a0 : At X5 b #[.slice o1 K K] 32 := by
    rw [hX5, hX4, hX3, hX2, hX1, ← hbe]; exact ((((At.new w1 _ _).alloc _).alloc _).alloc _).alloc _
  have a1 : At X5 (b + 1) #[.slice o2 K K] 32 := by
    rw [hX5, hX4, hX3, hX2, ← z1]; exact (((At.new X1 _ _).alloc _).alloc _).alloc _
  have a2 : At X5 (b + 1 + 1) (rowCells (K * 5) fun _ => 0) 67 := by
    rw [hX5, hX4, hX3, ← z2]; exact ((At.new X2 _ _).alloc _).alloc _
  have a3 : At X5 (b + 1 + 1 + 1) #[.slice (some ⟨b + 1 + 1, 0, none⟩) K K] 64 := by
    rw [hX5, hX4, ← z3]; exact (At.new X3 _ _).alloc _
  have a4 : At X5 (b + 1 + 1 + 1 + 1) #[.int .u64 0] 22 := by
    rw [hX5, ← z4]; exact At.new X4 _ _
  have a5 : At W0 (b + 1 + 1 + 1 + 1 + 1) #[.string s] 9 := by
    rw [hW0, ← z5]; exact (At.new X5 _ _).alloc _
  have a6 : At W0 (b + 1 + 1 + 1 + 1 + 1 + 1) #[.int .u8 ((0 : Nat) : Int)] 5 := by
    have h := At.new (X5.alloc (.cells #[.string s] 9)) #[.int .u8 ((0 : Nat) : Int)] 5
    rw [hW0, ← z5]; simpa using h
  have z0 : W0.heap.size = b + 7 := by rw [hW0]; simp only [World.size_alloc, z5]
  have hB0 : Below w.heap.size w W0 := (hB1.trans (q4.mono hB1.size)).trans (q5.mono (by have := hB1.size; omega))
  have hbw : w.heap.size ≤ b := by rw [← hbe]; exact hB1.size
  have hI0 : PtI w s K o1 o2 b 0 W0 := by
    refine ⟨⟨a0.keptAll q5, a1.keptAll q5, ?_, a3.keptAll q5, a4.keptAll q5, (ho1.kept q4).kept q5, (ho2.kept q4).kept q5, by omega, hM'.out.below hB0 (by omega)⟩, hB0⟩
    rw [show rowCells (K * 5) (ptUp s 0) = rowCells (K * 5) (fun _ => 0) from rowCells_congr (fun j _ => by unfold ptUp; rw [if_neg (by omega)])]
    exact a2.keptAll q5
  have hob1 := hid (show ∀ g, o1 = some ⟨g, 0, none⟩ → g < b from fun g e => hbe ▸ own_lt ho1 g e)
  have hob2 := hid (show ∀ g, o2 = some ⟨g, 0, none⟩ → g < b from fun g e => hbe ▸ own_lt ho2 g e)
  clear a0 a1 a2 a3 a4 z1 z2 z3 z4 z5 q4 q5 hW0 hX1 hX2 hX3 hX4 hX5 hmake ho1 ho2 hbe hB1
  clear X1 X2 X3 X4 X5
  go_wp2_with fail
  refine (wpIn_wide (n := 3)).1 ?_
  refine range_tell (n := 3) (by decide) (gf := 71) (lb := #[.pointer (some ⟨b + 1 + 1 + 1 + 1 + 1, 0, none⟩), .pointer (some ⟨b + 1 + 1 + 1 + 1 + 1 + 1, 0, none⟩)]) rfl (enters_of Tryd.func71 (by kernel_rfl) rfl)
    (blocks_tell (3 - 1) (b + 1 + 1 + 1 + 1 + 1) (b + 1 + 1 + 1 + 1 + 1 + 1) s (by omega) 0 W0 a5 a6) (Below.refl _ _) (fun _ => rfl) KeepB.trans (fun W l r r' h1 h2 => keepB_b (w := W0) W l _ _ h1 h2 rfl rfl)
    (PtI w s K o1 o2 b) (fun _ _ _ => False) (ptI_own hB0.size hw0) (fun _ _ _ _ _ h _ _ => h) hI0 (PtA s K o1 o2 b) (fun x a' => ptA_own x a') ?assign ?body ?done ?stop
  case assign =>
    intro l x W KK hx hI hKK
    obtain ⟨A, hA⟩ : ∃ A : Nat, Hid (A = 64 * x) := ⟨_, rfl⟩
    obtain ⟨L, hLt, hLl⟩ := arr64_list (cutF s (A : Int) 0)
    have hL1 := arr64_one _ hLt
    have hiL' : (Tryd.prog.info? 80).map (·.size) = some L.toArray.size := by rw [List.size_toArray, hLl]; exact info64
    have he : encB s 0 x = #[.int .i64 (A : Int), .agg L.toArray] := by rw [hLt, encB, show min x (blocksOf s) = x by omega, hA.out]
    rw [he]
    obtain ⟨hth, W2, hW2, hA2, hB2⟩ := laid64 W L hLl
    have hK2 := fun a' => hKK a' W2 ((keeps_below hB2).from _) (KeepB.of_below hB2) (ptI_kept hI hB2)
    have hgt : b + 7 ≤ W.heap.size := hI.1.2.2.2.2.2.2.2.1
    have hLH : Hid (L.toArray = arr64 (cutF s (A : Int) 0)) := hLt
    clear hKK hI hLt he
    gi_wp2_with (first | (refine wpListIn_store_want 80 _ _ (W.heap.size) 0 L.toArray hth hiL' (all_oneCell_toArray hL1) rfl rfl rfl (by rfl) ?_))
    exact ⟨W.heap.size, A, L, hA, hLH, hLl, hgt, hA2, rfl⟩
  case body =>
    rintro l j a' W hll ⟨rec, hrec⟩ hlt ⟨⟨h1, h2, h3, h4, h5, h6, h7, hzW, hMW⟩, hB⟩ ⟨gx, A, L, hA, hL, hLl, hgx, hAt, rfl⟩
    rw [hKb.out] at hlt
    have hAlt : A < s.size := by have := hA.out; have := hKs'.out; omega
    have hiL : (Tryd.prog.info? 80).map (·.size) = some L.length := by rw [hLl.out]; exact info64
    have hidx : (A : Int) / 64 = (j : Int) := by have := hA.out; omega
    have hjKi : (j : Int) < (K : Int) := by omega
    have hwJ : IntKind.i64.wrap (j : Int) = (j : Int) := by rw [IntKind.wrap_i64]; omega
    obtain ⟨g1, rfl, hg1, hr1⟩ : ∃ g, o1 = some ⟨g, 0, none⟩ ∧ w.heap.size ≤ g ∧ At W g (rowCells K (rowOf (opnS s) s.size)) 22 := by
      rcases h6 with ⟨_, h⟩ | h
      · omega
      · exact h
    obtain ⟨g2, rfl, hg2, hr2⟩ : ∃ g, o2 = some ⟨g, 0, none⟩ ∧ w.heap.size ≤ g ∧ At W g (rowCells K (rowOf (outS s) s.size)) 22 := by
      rcases h7 with ⟨_, h⟩ | h
      · omega
      · exact h
    obtain ⟨O, hO⟩ : ∃ O, Hid (rowOf (outS s) s.size j = O) := ⟨_, rfl⟩
    have hOl : O < 18446744073709551616 := hO.out ▸ rowOf_lt _ _ _
    obtain ⟨N, hN⟩ : ∃ N, Hid (rowOf (opnS s) s.size j = N) := ⟨_, rfl⟩
    have hNl : N < 18446744073709551616 := hN.out ▸ rowOf_lt _ _ _
    obtain ⟨P0, hP0⟩ : ∃ P, Hid (ptV s j 0 = P) := ⟨_, rfl⟩
    obtain ⟨P1, hP1⟩ : ∃ P, Hid (ptV s j 1 = P) := ⟨_, rfl⟩
    obtain ⟨P2, hP2⟩ : ∃ P, Hid (ptV s j 2 = P) := ⟨_, rfl⟩
    obtain ⟨P4, hP4⟩ : ∃ P, Hid (ptV s j 4 = P) := ⟨_, rfl⟩
    have hP3 : Hid (ptV s j 3 = N) := hN
    have hP2l : P2 < 18446744073709551616 := hP2.out ▸ ptV_lt s j 2
    obtain ⟨C, hC⟩ : ∃ C, Hid (cyS s j = C) := ⟨_, rfl⟩
    obtain ⟨C', hC'⟩ : ∃ C, Hid (cyS s (j + 1) = C) := ⟨_, rfl⟩
    have hCl : C < 18446744073709551616 := Nat.lt_of_le_of_lt (hC.out ▸ cyS_le s j) (by decide)
    obtain ⟨D, hD⟩ : ∃ D, Hid (P2 * 2 % 18446744073709551616 = D) := ⟨_, rfl⟩
    have hDl : D < 18446744073709551616 := by have := hD.out; omega
    obtain ⟨E, hE⟩ : ∃ E, Hid (D ||| C = E) := ⟨_, rfl⟩
    have hEl : E < 18446744073709551616 := by have := ahead_lt s j; rw [hP2.out, hC.out, hD.out, hE.out] at this; exact this
    have q1 : IntKind.u64.wrap ((P2 : Int) * 2) = (D : Int) := by rw [IntKind.wrap_u64, ← hD.out]; omega
    have q2 : bits BinOp.or IntKind.u64 (D : Int) (C : Int) = (E : Int) := by rw [u64_or_nat D C hDl hCl, hE.out]
    have q3 : bits BinOp.andNot IntKind.u64 (P2 : Int) (E : Int) = (P4 : Int) := by
      rw [u64_andNot_nat P2 E hP2l hEl]
      have := first_row s j
      rw [hP2.out, hC.out, hD.out, hE.out, hP4.out] at this
      rw [this]
    have q4 : (P2 : Int) / 9223372036854775808 = (C' : Int) := by have := cy_next s j; rw [hP2.out, hC'.out] at this; omega
    have hEq := hid (fun (W' : World) (hb : Below W.heap.size W W') => show Calls Tryd.prog 55 #[.agg L.toArray, .int .u64 (O : Int)] W' fun e w' => e = .returned (.agg #[.int .u64 (P0 : Int), .int .u64 (P1 : Int), .int .u64 (P2 : Int), .int .u64 0, .int .u64 0]) ∧ Below W'.heap.size W' w' by
      rw [hL.out]
      exact split_calls (cutF s (A : Int) 0) (fun i => cutF_lt s _ 0 (by decide) i) O P0 P1 P2 hOl (by show _ = _; rw [← hO.out, hA.out, cut_str, hP0.out]) (by show _ = _; rw [← hO.out, hA.out, cut_blk, hP1.out]) (by show _ = _; rw [← hO.out, hA.out, cut_word, hP2.out]) W' (hMW.below hb (by omega)) (by have := hb.size; omega))
    have hrg := hAt.range (L := L) rfl
    have hkeep := hid (fun (W' : World) (hb : Below W.heap.size W W') => show W'.cell? ⟨b + 1, 0, none⟩ = some (.slice (some ⟨g2, 0, none⟩) K K) ∧ W'.cell? ⟨g2, j, none⟩ = some (.int .u64 (O : Int)) ∧ W'.rangeAt gx 0 L from
      ⟨(h2.keptAll hb).cell 0, by have := (hr2.keptAll hb).cell j; rw [rowCells_get _ hlt, hO.out] at this; exact this, (hAt.keptAll hb).range rfl⟩)
    have hS0 := hkeep.out W.drew (Below.refl _ _).drew
    have hj5 : ∀ f, f < 5 → j * 5 + f < K * 5 := fun f hf => by omega
    have hfac := hid (fun (W' : World) (hb : Below W.heap.size W W') => show W'.cell? ⟨b, 0, none⟩ = some (.slice (some ⟨g1, 0, none⟩) K K) ∧ W'.cell? ⟨g1, j, none⟩ = some (.int .u64 (N : Int)) ∧ W'.cell? ⟨b + 1 + 1 + 1 + 1, 0, none⟩ = some (.int .u64 (C : Int)) ∧ W'.frozen? ⟨b + 1 + 1 + 1 + 1, 0, none⟩ = false ∧ W'.cell? ⟨b + 1 + 1 + 1, 0, none⟩ = some (.slice (some ⟨b + 1 + 1, 0, none⟩) K K) ∧
        (∃ u, W'.cell? ⟨b + 1 + 1, j * 5, none⟩ = some u) ∧ (∃ u, W'.cell? ⟨b + 1 + 1, j * 5 + 1, none⟩ = some u) ∧ (∃ u, W'.cell? ⟨b + 1 + 1, j * 5 + 2, none⟩ = some u) ∧ (∃ u, W'.cell? ⟨b + 1 + 1, j * 5 + 3, none⟩ = some u) ∧ (∃ u, W'.cell? ⟨b + 1 + 1, j * 5 + 4, none⟩ = some u) ∧
        (∀ i, W'.frozen? ⟨b + 1 + 1, i, none⟩ = false) ∧ b + 7 ≤ W'.heap.size ∧ g1 < W'.heap.size ∧ True by
      refine ⟨(h1.keptAll hb).cell 0, ?_, ?_, (h5.keptAll hb).frozen 0, (h4.keptAll hb).cell 0, ?_, ?_, ?_, ?_, ?_, fun i => (h3.keptAll hb).frozen i, Nat.le_trans hzW hb.size, (hr1.keptAll hb).lt, trivial⟩
      · have := (hr1.keptAll hb).cell j
        rw [rowCells_get _ hlt, hN.out] at this
        exact this
      · have := (h5.keptAll hb).cell 0
        rw [hC.out] at this
        exact this
      · exact ⟨_, by rw [(h3.keptAll hb).cell (j * 5), rowCells_get _ (show j * 5 < K * 5 by omega)]⟩
      · exact ⟨_, by rw [(h3.keptAll hb).cell (j * 5 + 1), rowCells_get _ (hj5 1 (by omega))]⟩
      · exact ⟨_, by rw [(h3.keptAll hb).cell (j * 5 + 2), rowCells_get _ (hj5 2 (by omega))]⟩
      · exact ⟨_, by rw [(h3.keptAll hb).cell (j * 5 + 3), rowCells_get _ (hj5 3 (by omega))]⟩
      · exact ⟨_, by rw [(h3.keptAll hb).cell (j * 5 + 4), rowCells_get _ (hj5 4 (by omega))]⟩)
    have hgW : w.heap.size ≤ W.heap.size := hB.size
    have hg1b := hob1.out g1 rfl
    have hg2b := hob2.out g2 rfl
    have hfin := hid (fun (X : World) (gp : Nat) (hb : Below W.heap.size W X) (hgp : W.heap.size ≤ gp) => show KeepsFrom W0.heap.size W (((((((((X.setCell ⟨gp, 3, none⟩ (.int .u64 (N : Int))).setCell ⟨gp, 4, none⟩ (.int .u64 (P4 : Int))).setCell ⟨b + 1 + 1 + 1 + 1, 0, none⟩ (.int .u64 (C' : Int))).setCell ⟨b + 1 + 1, j * 5, none⟩ (.int .u64 (P0 : Int))).setCell ⟨b + 1 + 1, j * 5 + 1, none⟩ (.int .u64 (P1 : Int))).setCell ⟨b + 1 + 1, j * 5 + 2, none⟩ (.int .u64 (P2 : Int))).setCell ⟨b + 1 + 1, j * 5 + 3, none⟩ (.int .u64 (N : Int))).setCell ⟨b + 1 + 1, j * 5 + 4, none⟩ (.int .u64 (P4 : Int)))) ∧
        KeepB (b + 1 + 1 + 1 + 1 + 1) (b + 1 + 1 + 1 + 1 + 1 + 1) W (((((((((X.setCell ⟨gp, 3, none⟩ (.int .u64 (N : Int))).setCell ⟨gp, 4, none⟩ (.int .u64 (P4 : Int))).setCell ⟨b + 1 + 1 + 1 + 1, 0, none⟩ (.int .u64 (C' : Int))).setCell ⟨b + 1 + 1, j * 5, none⟩ (.int .u64 (P0 : Int))).setCell ⟨b + 1 + 1, j * 5 + 1, none⟩ (.int .u64 (P1 : Int))).setCell ⟨b + 1 + 1, j * 5 + 2, none⟩ (.int .u64 (P2 : Int))).setCell ⟨b + 1 + 1, j * 5 + 3, none⟩ (.int .u64 (N : Int))).setCell ⟨b + 1 + 1, j * 5 + 4, none⟩ (.int .u64 (P4 : Int)))) ∧
        PtI w s K (some ⟨g1, 0, none⟩) (some ⟨g2, 0, none⟩) b (j + 1) (((((((((X.setCell ⟨gp, 3, none⟩ (.int .u64 (N : Int))).setCell ⟨gp, 4, none⟩ (.int .u64 (P4 : Int))).setCell ⟨b + 1 + 1 + 1 + 1, 0, none⟩ (.int .u64 (C' : Int))).setCell ⟨b + 1 + 1, j * 5, none⟩ (.int .u64 (P0 : Int))).setCell ⟨b + 1 + 1, j * 5 + 1, none⟩ (.int .u64 (P1 : Int))).setCell ⟨b + 1 + 1, j * 5 + 2, none⟩ (.int .u64 (P2 : Int))).setCell ⟨b + 1 + 1, j * 5 + 3, none⟩ (.int .u64 (N : Int))).setCell ⟨b + 1 + 1, j * 5 + 4, none⟩ (.int .u64 (P4 : Int)))) by
      have hb2 : Below W.heap.size W ((X.setCell ⟨gp, 3, none⟩ (.int .u64 (N : Int))).setCell ⟨gp, 4, none⟩ (.int .u64 (P4 : Int))) := (hb.setCell (p := ⟨gp, 3, none⟩) hgp _).setCell (p := ⟨gp, 4, none⟩) hgp _
      generalize (X.setCell ⟨gp, 3, none⟩ (.int .u64 (N : Int))).setCell ⟨gp, 4, none⟩ (.int .u64 (P4 : Int)) = Y at hb2 ⊢
      have hB3 : Below w.heap.size w Y := hB.trans (hb2.mono hgW)
      refine ⟨(((((((keeps_below hb2).trans (KeepsOthers.setCell _ _ _)).trans (KeepsOthers.setCell _ _ _)).trans (KeepsOthers.setCell _ _ _)).trans (KeepsOthers.setCell _ _ _)).trans (KeepsOthers.setCell _ _ _)).trans (KeepsOthers.setCell _ _ _)).from _,
        ((((((KeepB.of_below hb2).trans (keepB_set (p := ⟨b + 1 + 1 + 1 + 1, 0, none⟩) (by show b + 1 + 1 + 1 + 1 + 1 ≠ b + 1 + 1 + 1 + 1; omega) (by show b + 1 + 1 + 1 + 1 + 1 + 1 ≠ b + 1 + 1 + 1 + 1; omega))).trans (keepB_set (p := ⟨b + 1 + 1, j * 5, none⟩) (by show b + 1 + 1 + 1 + 1 + 1 ≠ b + 1 + 1; omega) (by show b + 1 + 1 + 1 + 1 + 1 + 1 ≠ b + 1 + 1; omega))).trans (keepB_set (p := ⟨b + 1 + 1, j * 5 + 1, none⟩) (by show b + 1 + 1 + 1 + 1 + 1 ≠ b + 1 + 1; omega) (by show b + 1 + 1 + 1 + 1 + 1 + 1 ≠ b + 1 + 1; omega))).trans (keepB_set (p := ⟨b + 1 + 1, j * 5 + 2, none⟩) (by show b + 1 + 1 + 1 + 1 + 1 ≠ b + 1 + 1; omega) (by show b + 1 + 1 + 1 + 1 + 1 + 1 ≠ b + 1 + 1; omega))).trans (keepB_set (p := ⟨b + 1 + 1, j * 5 + 3, none⟩) (by show b + 1 + 1 + 1 + 1 + 1 ≠ b + 1 + 1; omega) (by show b + 1 + 1 + 1 + 1 + 1 + 1 ≠ b + 1 + 1; omega))).trans (keepB_set (p := ⟨b + 1 + 1, j * 5 + 4, none⟩) (by show b + 1 + 1 + 1 + 1 + 1 ≠ b + 1 + 1; omega) (by show b + 1 + 1 + 1 + 1 + 1 + 1 ≠ b + 1 + 1; omega)),
        ⟨?_, ?_, ?_, ?_, ?_, ?_, ?_, ?_, ?_⟩, ?_⟩
      · exact ((h1.keptAll hb2).other (p := ⟨b + 1 + 1 + 1 + 1, 0, none⟩) (by show b ≠ b + 1 + 1 + 1 + 1; omega) _).five_other (by omega) _ _ _ _ _ _
      · exact ((h2.keptAll hb2).other (p := ⟨b + 1 + 1 + 1 + 1, 0, none⟩) (by show b + 1 ≠ b + 1 + 1 + 1 + 1; omega) _).five_other (by omega) _ _ _ _ _ _
      · have h := (((((((h3.keptAll hb2).other (p := ⟨b + 1 + 1 + 1 + 1, 0, none⟩) (by show b + 1 + 1 ≠ b + 1 + 1 + 1 + 1; omega) (.int .u64 (C' : Int))).set (j * 5) (.int .u64 (P0 : Int))).set (j * 5 + 1) (.int .u64 (P1 : Int))).set (j * 5 + 2) (.int .u64 (P2 : Int))).set (j * 5 + 3) (.int .u64 (N : Int))).set (j * 5 + 4) (.int .u64 (P4 : Int)))
        rw [rowCells_set, rowCells_set, rowCells_set, rowCells_set, rowCells_set] at h
        rw [show rowCells (K * 5) (ptUp s (j + 1)) = rowCells (K * 5) (fun i => if i = j * 5 + 4 then P4 else if i = j * 5 + 3 then N else if i = j * 5 + 2 then P2 else if i = j * 5 + 1 then P1 else if i = j * 5 then P0 else ptUp s j i) from
          rowCells_congr (fun i _ => by rw [← hP0.out, ← hP1.out, ← hP2.out, ← hP3.out, ← hP4.out]; exact (ptUp_set s j i).symm)]
        exact h
      · exact ((h4.keptAll hb2).other (p := ⟨b + 1 + 1 + 1 + 1, 0, none⟩) (by show b + 1 + 1 + 1 ≠ b + 1 + 1 + 1 + 1; omega) _).five_other (by omega) _ _ _ _ _ _
      · have h := (h5.keptAll hb2).set 0 (.int .u64 (C' : Int))
        rw [hC'.out]
        exact At.five_other (by simpa using h) (by omega) _ _ _ _ _ _
      · exact .inr ⟨g1, rfl, hg1, ((hr1.keptAll hb2).other (p := ⟨b + 1 + 1 + 1 + 1, 0, none⟩) (by show g1 ≠ b + 1 + 1 + 1 + 1; omega) _).five_other (by omega) _ _ _ _ _ _⟩
      · exact .inr ⟨g2, rfl, hg2, ((hr2.keptAll hb2).other (p := ⟨b + 1 + 1 + 1 + 1, 0, none⟩) (by show g2 ≠ b + 1 + 1 + 1 + 1; omega) _).five_other (by omega) _ _ _ _ _ _⟩
      · exact Nat.le_trans hzW (((((((keeps_below hb2).trans (KeepsOthers.setCell _ _ _)).trans (KeepsOthers.setCell _ _ _)).trans (KeepsOthers.setCell _ _ _)).trans (KeepsOthers.setCell _ _ _)).trans (KeepsOthers.setCell _ _ _)).trans (KeepsOthers.setCell _ _ _)).1
      · refine TabM.below (n₀ := w.heap.size) (hMW.below (n₀ := w.heap.size) (hb2.mono hgW) hw0) ?_ hw0
        exact ((((((Below.refl _ Y).setCell (p := ⟨b + 1 + 1 + 1 + 1, 0, none⟩) (by show w.heap.size ≤ b + 1 + 1 + 1 + 1; omega) _).setCell (p := ⟨b + 1 + 1, j * 5, none⟩) (by show w.heap.size ≤ b + 1 + 1; omega) _).setCell (p := ⟨b + 1 + 1, j * 5 + 1, none⟩) (by show w.heap.size ≤ b + 1 + 1; omega) _).setCell (p := ⟨b + 1 + 1, j * 5 + 2, none⟩) (by show w.heap.size ≤ b + 1 + 1; omega) _).setCell (p := ⟨b + 1 + 1, j * 5 + 3, none⟩) (by show w.heap.size ≤ b + 1 + 1; omega) _).setCell (p := ⟨b + 1 + 1, j * 5 + 4, none⟩) (by show w.heap.size ≤ b + 1 + 1; omega) _
      · exact ((((((hB3).setCell (p := ⟨b + 1 + 1 + 1 + 1, 0, none⟩) (by show w.heap.size ≤ b + 1 + 1 + 1 + 1; omega) _).setCell (p := ⟨b + 1 + 1, j * 5, none⟩) (by show w.heap.size ≤ b + 1 + 1; omega) _).setCell (p := ⟨b + 1 + 1, j * 5 + 1, none⟩) (by show w.heap.size ≤ b + 1 + 1; omega) _).setCell (p := ⟨b + 1 + 1, j * 5 + 2, none⟩) (by show w.heap.size ≤ b + 1 + 1; omega) _).setCell (p := ⟨b + 1 + 1, j * 5 + 3, none⟩) (by show w.heap.size ≤ b + 1 + 1; omega) _).setCell (p := ⟨b + 1 + 1, j * 5 + 4, none⟩) (by show w.heap.size ≤ b + 1 + 1; omega) _)
    clear h1 h2 h3 h4 h5 h6 h7 hr1 hr2 hA hL hLl hAt hO hN hP0 hP1 hP2 hP3 hP4 hC hC' hD hE hrg hMW hB hAlt hj5 hOl hNl hP2l hCl hDl hEl
    gi_wp2_with fail
    refine wpIn_region_round (S := fun W' => W'.cell? ⟨b + 1, 0, none⟩ = some (.slice (some ⟨g2, 0, none⟩) K K) ∧ W'.cell? ⟨g2, j, none⟩ = some (.int .u64 (O : Int)) ∧ W'.rangeAt gx 0 L) (by kernel_rfl) (by kernel_rfl) (fun _ _ h => h) hS0 (fun hHeld => ?_)
    (refine wpAnyH_take (i := 0) (v := .agg L.toArray) rfl (by kernel_rfl) (by kernel_rfl) (by kernel_rfl) (fun _ _ _ h => h) (yieldsIf_load_mid (by rfl) 80 _ rfl (gx) 0 rfl L _ (fun wq hq => hq.2.2) Tryd.underlying80 rfl hiL) (by assumption) ?_; simp only [Act.put, List.getElem_toArray, List.getElem_cons_zero, List.setIfInBounds_toArray, List.set_cons_zero, List.set_cons_succ])
    (refine' wpAnyH_take (i := 1) rfl (by kernel_rfl) (by kernel_rfl) (by kernel_rfl) (fun _ _ _ h => h) (Or.inl ⟨by rfl, ?_⟩) (by assumption) ?_; rotate_left; (· (intro wq hq; (try dsimp only at hq); go_simp; first | done | with_reducible rfl)); simp only [Act.put, List.getElem_toArray, List.getElem_cons_zero, List.getElem_cons_succ, List.setIfInBounds_toArray, List.set_cons_zero, List.set_cons_succ])
    (refine' wpAnyH_take (i := 2) rfl (by kernel_rfl) (by kernel_rfl) (by kernel_rfl) (fun _ _ _ h => h) (Or.inl ⟨by rfl, ?_⟩) (by assumption) ?_; rotate_left; (· (intro wq hq; (try dsimp only at hq); go_simp; first | done | with_reducible rfl)); simp only [Act.put, List.getElem_toArray, List.getElem_cons_zero, List.getElem_cons_succ, List.setIfInBounds_toArray, List.set_cons_zero, List.set_cons_succ])
    (refine' wpAnyH_take (i := 3) rfl (by kernel_rfl) (by kernel_rfl) (by kernel_rfl) (fun _ _ _ h => h) (Or.inl ⟨by rfl, ?_⟩) (by assumption) ?_; rotate_left; (· (intro wq hq; (try dsimp only at hq); go_simp; first | done | with_reducible rfl)); simp only [Act.put, List.getElem_toArray, List.getElem_cons_zero, List.getElem_cons_succ, List.setIfInBounds_toArray, List.set_cons_zero, List.set_cons_succ])
    (refine' wpAnyH_take (i := 4) rfl (by kernel_rfl) (by kernel_rfl) (by kernel_rfl) (fun _ _ _ h => h) (Or.inl ⟨by rfl, ?_⟩) (by assumption) ?_; rotate_left; (· (intro wq hq; (try dsimp only at hq); go_simp; first | done | with_reducible rfl)); simp only [Act.put, List.getElem_toArray, List.getElem_cons_zero, List.getElem_cons_succ, List.setIfInBounds_toArray, List.set_cons_zero, List.set_cons_succ])
    (refine' wpAnyH_take (i := 5) rfl (by kernel_rfl) (by kernel_rfl) (by kernel_rfl) (fun _ _ _ h => h) (Or.inl ⟨by rfl, ?_⟩) (by assumption) ?_; rotate_left; (· (intro wq hq; (try dsimp only at hq); go_simp; first | done | with_reducible rfl)); simp only [Act.put, List.getElem_toArray, List.getElem_cons_zero, List.getElem_cons_succ, List.setIfInBounds_toArray, List.set_cons_zero, List.set_cons_succ])
    refine wpAnyH_ready (rs := [6, 7]) (by kernel_rfl) (by simp) ?_
    refine AllReadyH.cons rfl (fun K hK => ?_) ?_
    · rw [if_pos (by rfl)]
      go_simp
      refine (hEq.out _ (Below.refl _ _).drew).mono ?_
      rintro e wq ⟨rfl, hbq⟩
      have hb1 : Below W.heap.size W wq := (Below.refl _ W).drew.trans hbq
      have hszq := hb1.size
      refine hK.out _ _ (hkeep.out _ hb1) (fun hHa => ?_)
      clear hK K
      refine wpAnyH_ready (rs := [7]) (by kernel_rfl) (by simp) ?_
      refine AllReadyH.cons rfl (fun K hK => ?_) ?_
      · go_simp
        refine hK.out _ _ (hkeep.out _ (hb1.alloc hszq _)) (fun hHb => ?_)
        clear hK K
        refine wpAnyH_ready (rs := [8]) (by kernel_rfl) (by simp) ?_
        refine AllReadyH.cons rfl (fun K hK => ?_) ?_
        · go_simp
          have hXb := hb1.alloc (o := (.cells #[.int .u64 (P0 : Int), .int .u64 (P1 : Int), .int .u64 (P2 : Int), .int .u64 0, .int .u64 0] 67)) hszq
          have hXp := At.new wq #[.int .u64 (P0 : Int), .int .u64 (P1 : Int), .int .u64 (P2 : Int), .int .u64 0, .int .u64 0] 67
          have hgp : W.heap.size ≤ wq.heap.size := hszq
          obtain ⟨f1, f2, f3, f4, f5, ⟨u0, f6⟩, ⟨u1, f7⟩, ⟨u2, f8⟩, ⟨u3, f9⟩, ⟨u4, f10⟩, f11, f12, f13, -⟩ := hfac.out _ hXb
          have f11a := f11 (j * 5)
          have f11b := f11 (j * 5 + 1)
          have f11c := f11 (j * 5 + 2)
          have f11d := f11 (j * 5 + 3)
          have f11e := f11 (j * 5 + 4)
          clear f11
          obtain ⟨c0, c1, c2, c3, c4, m3, m4⟩ := five_facts hXp
          have hgl := hXp.lt
          have hfe := hid (hfin.out _ _ hXb hgp)
          refine hK.out _ _ (hkeep.out _ hXb) (fun hH => ?_)
          clear hK K
          refine wpAnyH_done (by kernel_rfl) ?_ _
          have hgpb : b + 7 ≤ wq.heap.size := Nat.le_trans hzW hgp
          clear hXp hXb hEq hfin hfac hkeep hb1 hszq hgp hbq
          clear hH hHa hHb hHeld hS0
          rename_i Kz hKz
          refine hKz _ _ ?_
          clear hKz Kz
          generalize wq.alloc (.cells #[.int .u64 (P0 : Int), .int .u64 (P1 : Int), .int .u64 (P2 : Int), .int .u64 0, .int .u64 0] 67) = X at *
          gi_wp2
          exact hfe.out
        · exact AllReadyH.nil
      · exact AllReadyH.nil
    · refine AllReadyH.cons rfl (fun K hK => ?_) ?_
      · go_simp
        have hba : Below W.heap.size W (W.drew.alloc (.cells #[.int .u64 0, .int .u64 0, .int .u64 0, .int .u64 0, .int .u64 0] 67)) := (Below.refl _ W).drew.alloc (Nat.le_refl _) _
        refine hK.out _ _ (hkeep.out _ hba) (fun hHa => ?_)
        clear hK K
        refine wpAnyH_ready (rs := [6]) (by kernel_rfl) (by simp) ?_
        refine AllReadyH.cons rfl (fun K hK => ?_) ?_
        · rw [if_pos (by rfl)]
          go_simp
          refine (hEq.out _ hba).mono ?_
          rintro e wq ⟨rfl, hbq⟩
          have hb1 : Below W.heap.size W wq := hba.trans (hbq.mono hba.size)
          have hp0 : At wq W.heap.size #[.int .u64 0, .int .u64 0, .int .u64 0, .int .u64 0, .int .u64 0] 67 := (At.new W.drew #[.int .u64 0, .int .u64 0, .int .u64 0, .int .u64 0, .int .u64 0] 67).keptAll hbq
          refine hK.out _ _ (hkeep.out _ hb1) (fun hHb => ?_)
          clear hK K
          refine wpAnyH_ready (rs := [8]) (by kernel_rfl) (by simp) ?_
          refine AllReadyH.cons rfl (fun K hK => ?_) ?_
          · have k0 := hp0.cell 0
            have k1 := hp0.cell 1
            have k2 := hp0.cell 2
            have k3 := hp0.cell 3
            have k4 := hp0.cell 4
            have n0 := hp0.frozen 0
            have n1 := hp0.frozen 1
            have n2 := hp0.frozen 2
            have n3 := hp0.frozen 3
            have n4 := hp0.frozen 4
            simp only [List.getElem?_toArray, List.getElem?_cons_zero, List.getElem?_cons_succ] at k0 k1 k2 k3 k4
            go_simp
            have hXb : Below W.heap.size W (((((wq.setCell ⟨W.heap.size, 0, none⟩ (.int .u64 (P0 : Int))).setCell ⟨W.heap.size, 1, none⟩ (.int .u64 (P1 : Int))).setCell ⟨W.heap.size, 2, none⟩ (.int .u64 (P2 : Int))).setCell ⟨W.heap.size, 3, none⟩ (.int .u64 0)).setCell ⟨W.heap.size, 4, none⟩ (.int .u64 0)) := ((((hb1.setCell (p := ⟨W.heap.size, 0, none⟩) (Nat.le_refl _) _).setCell (p := ⟨W.heap.size, 1, none⟩) (Nat.le_refl _) _).setCell (p := ⟨W.heap.size, 2, none⟩) (Nat.le_refl _) _).setCell (p := ⟨W.heap.size, 3, none⟩) (Nat.le_refl _) _).setCell (p := ⟨W.heap.size, 4, none⟩) (Nat.le_refl _) _
            have hXp : At _ W.heap.size _ _ := hp0.five (y0 := .int .u64 (P0 : Int)) (y1 := .int .u64 (P1 : Int)) (y2 := .int .u64 (P2 : Int)) (y3 := .int .u64 0) (y4 := .int .u64 0)
            have hgp : W.heap.size ≤ W.heap.size := Nat.le_refl _
            obtain ⟨X, hX⟩ : ∃ X, X = (((((wq.setCell ⟨W.heap.size, 0, none⟩ (.int .u64 (P0 : Int))).setCell ⟨W.heap.size, 1, none⟩ (.int .u64 (P1 : Int))).setCell ⟨W.heap.size, 2, none⟩ (.int .u64 (P2 : Int))).setCell ⟨W.heap.size, 3, none⟩ (.int .u64 0)).setCell ⟨W.heap.size, 4, none⟩ (.int .u64 0)) := ⟨_, rfl⟩
            rw [← hX] at hXb hXp ⊢
            clear hX k0 k1 k2 k3 k4 n0 n1 n2 n3 n4 hp0 hba
            obtain ⟨f1, f2, f3, f4, f5, ⟨u0, f6⟩, ⟨u1, f7⟩, ⟨u2, f8⟩, ⟨u3, f9⟩, ⟨u4, f10⟩, f11, f12, f13, -⟩ := hfac.out _ hXb
            have f11a := f11 (j * 5)
            have f11b := f11 (j * 5 + 1)
            have f11c := f11 (j * 5 + 2)
            have f11d := f11 (j * 5 + 3)
            have f11e := f11 (j * 5 + 4)
            clear f11
            obtain ⟨c0, c1, c2, c3, c4, m3, m4⟩ := five_facts hXp
            have hgl := hXp.lt
            have hfe := hid (hfin.out _ _ hXb hgp)
            refine hK.out _ _ (hkeep.out _ hXb) (fun hH => ?_)
            clear hK K
            refine wpAnyH_done (by kernel_rfl) ?_ _
            have hgpb : b + 7 ≤ W.heap.size := Nat.le_trans hzW hgp
            clear hXp hXb hEq hfin hfac hkeep hb1 hgp hbq
            clear hH hHa hHb hHeld hS0
            rename_i Kz hKz
            refine hKz _ _ ?_
            clear hKz Kz
            gi_wp2
            exact hfe.out
          · exact AllReadyH.nil
        · exact AllReadyH.nil
      · exact AllReadyH.nil
  case done =>
    rintro D W hD ⟨⟨-, -, h3, h4, -, -, -, hzW, -⟩, hB⟩ hKD
    rw [hKb.out] at h3
    rw [show rowCells (K * 5) (ptUp s K) = rowCells (K * 5) (ptZ s) from rowCells_congr fun i hi => by unfold ptUp ptZ; rw [if_pos (by omega)]] at h3
    have k4 := h4.cell 0
    simp only [List.getElem?_toArray, List.getElem?_cons_zero] at k4
    rename_i Kz hKz
    have h3' := hid h3
    clear h4 hI0 hnf h3
    refine hKz _ _ ?_
    go_wp2
    refine ⟨by simp, .inl ⟨_, _, rfl, run_takeDeferred hKD, ?_⟩⟩
    refine ⟨.slice (some ⟨b + 1 + 1, 0, none⟩) K K, ?_, b + 1 + 1, by omega, rfl, h3'.out.own (grownBy_putObj' W D (.deferred none)) (fun r e => by cases e; exact ⟨_, hKD, rfl⟩), hB.trans (belowK_b (w := w) (Nat.le_refl _) W D _ _ (by omega) hKD rfl rfl)⟩
    simp [results, Tryd.f34, go_sem]
  case stop =>
    rintro D c pre W _ _ h _
    exact h.elim
theorem parts_calls (s : ByteArray) (hs : s.size ≤ 140737488355328) (w : World) (hT : Tab w) (hM : TabM w) (hw0 : 1 < w.heap.size) :
    Calls Tryd.prog 34 #[.string s] w fun e w' => ∃ g, w.heap.size ≤ g ∧ e = .returned (.slice (some ⟨g, 0, none⟩) (need s.size) (need s.size)) ∧ At w' g (rowCells (need s.size * 5) (ptZ s)) 67 ∧ Below w.heap.size w w' := callsIn_wide.1 (parts_in s hs w hT hM hw0)
end Go.Proofs.YtomeaejjdjidlaaDoor
