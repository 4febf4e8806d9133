/-
  What quarrylaw08.told answers of the words of a text and their list: true, wherever it is left, and however deep.
-/
import Derived.Test.YtmgbgphlkhkldaaDoorMkWords2
import Derived.Test.YtmgbgphlkhkldaaDoorQuoC
namespace Go.Proofs.YtmgbgphlkhkldaaDoor
open Go.RowKit Go.Shelf

attribute [local go_sem] Oper.semAt_some

/-- The words of a text: where each begins, and where it ends. -/
def wrdS (s : ByteArray) : List (Nat × Nat) := (List.range ((trT s).length / 2)).map fun k => ((trT s).getD (2 * k) 0, (trT s).getD (2 * k + 1) 0)
theorem wrdS_len (s : ByteArray) : (wrdS s).length = (trT s).length / 2 := by simp [wrdS]
theorem wrdS_at {s : ByteArray} {r : Nat} (h : r < (trT s).length / 2) : (wrdS s)[r]? = some ((trT s).getD (2 * r) 0, (trT s).getD (2 * r + 1) 0) := by simp [wrdS, h]
theorem trT_len (s : ByteArray) : (trT s).length ≤ 64 * (need s.size + 1) := plB_lt (trX s) (need s.size + 1)

theorem wf_wrap64 (z : Int) : (Lit.int .i64 (IntKind.i64.wrap z)).wf = true := by
  rw [IntKind.wrap_i64]
  simp [Lit.wf, IntKind.min, IntKind.max, IntKind.bits, IntKind.signed]
  omega
theorem at_set1 {w : World} {b : Nat} {v : Value} {t : TypeId} (h : At w b #[v] t) (u : Value) : At (w.setCell ⟨b, 0, none⟩ u) b #[u] t := by simpa using h.set 0 u
/-- The sequence, as a value. -/
abbrev seqW (Bl : Nat) : Value := .func (.func 32) #[] #[.pointer (some ⟨Bl, 0, none⟩)]
/-- Between two rounds. -/
def T8I (w : World) (Bl : Nat) (ao : Option Addr) (N cap : Nat) (left : Int) (d : Nat) (r : Nat) (W : World) : Prop :=
  (At W w.heap.size #[seqW Bl] 35 ∧ At W (w.heap.size + 1) #[.slice ao N cap] 39 ∧ At W (w.heap.size + 1 + 1) #[.int .i64 left] 3 ∧ At W (w.heap.size + 1 + 1 + 1) #[.int .i64 (d : Int)] 3 ∧ At W (w.heap.size + 1 + 1 + 1 + 1) #[.bool false] 4 ∧ At W (w.heap.size + 1 + 1 + 1 + 1 + 1) #[.int .i64 (r : Int)] 3 ∧ w.heap.size + 6 ≤ W.heap.size) ∧ Below w.heap.size w W
def T8X (w : World) (c : Code) (_ : Nat) (W : World) : Prop := c = .ret ∧ At W (w.heap.size + 1 + 1 + 1 + 1) #[.bool true] 4 ∧ Below w.heap.size w W
/-- The frame in which a round's body begins. -/
def T8A (w : World) (s : ByteArray) (Bl : Nat) (ao : Option Addr) (N cap : Nat) (left : Int) (d : Nat) (x : Nat) (a' : Act) (W : World) : Prop :=
  ∃ (gx A C : Nat), Hid (((trT s).getD (2 * x) 0, (trT s).getD (2 * x + 1) 0) = (A, C)) ∧ w.heap.size + 6 ≤ gx ∧ At W gx #[.int .i64 (A : Int), .int .i64 (C : Int)] 38 ∧ a' = { tmps := #[seqW Bl, .slice ao N cap, .int .i64 left, .int .i64 (d : Int), .pointer (some ⟨w.heap.size, 0, none⟩), .pointer (some ⟨w.heap.size + 1, 0, none⟩), .pointer (some ⟨w.heap.size + 1 + 1, 0, none⟩), .pointer (some ⟨w.heap.size + 1 + 1 + 1, 0, none⟩), .pointer (some ⟨w.heap.size + 1 + 1 + 1 + 1, 0, none⟩), .pointer (some ⟨w.heap.size + 1 + 1 + 1 + 1 + 1, 0, none⟩), .pointer (some ⟨gx, 0, none⟩), seqW Bl, .agg #[.int .i64 (A : Int), .int .i64 (C : Int)], undef, undef, undef, undef, undef, undef, undef, undef, undef, undef, undef, undef, undef, undef, undef, undef, undef, undef, undef, undef, undef, undef, undef, undef, undef, undef, undef, undef, undef, undef, undef, undef, undef, undef, undef, undef, undef], defers := [] }
section
variable {w : World} {s : ByteArray} {Bl N cap d B : Nat} {left : Int} {ao : Option Addr}
theorem t8I_free (hB : w.heap.size + 6 ≤ B) : FreeFrom B (T8I w Bl ao N cap left d) := fun t X Z row hs hg hr => by
  obtain ⟨⟨h1, h2, h3, h4, h5, h6, h7⟩, hb⟩ := hs
  exact ⟨⟨h1.free (by omega) hg hr, h2.free (by omega) hg hr, h3.free (by omega) hg hr, h4.free (by omega) hg hr, h5.free (by omega) hg hr, h6.free (by omega) hg hr, Nat.le_trans h7 hg.size⟩, below_free hb (by omega) (by omega) hg hr⟩
theorem t8X_free (hB : w.heap.size + 6 ≤ B) (c : Code) : FreeFrom B (T8X w c) := fun t X Z row hs hg hr => by
  obtain ⟨h0, h1, h2⟩ := hs
  exact ⟨h0, h1.free (by omega) hg hr, below_free h2 (by omega) h2.size hg hr⟩
theorem t8A_own (x : Nat) (a' : Act) : OwnFrom B (fun (_ : Unit) W => T8A w s Bl ao N cap left d x a' W) := fun _ X Y row hs hg hr => by
  obtain ⟨gx, A, C, h1, h4, h5, h6⟩ := hs
  exact ⟨gx, A, C, h1, h4, h5.own hg (fun r e => (hr r e).2), h6⟩
theorem t8I_kept {r : Nat} {X Z : World} (h : T8I w Bl ao N cap left d r X) (hb : Below X.heap.size X Z) : T8I w Bl ao N cap left d r Z := by
  obtain ⟨⟨h1, h2, h3, h4, h5, h6, h7⟩, hB⟩ := h
  exact ⟨⟨h1.keptAll hb, h2.keptAll hb, h3.keptAll hb, h4.keptAll hb, h5.keptAll hb, h6.keptAll hb, Nat.le_trans h7 hb.size⟩, hB.trans (hb.mono hB.size)⟩
end

set_option maxRecDepth 100000 in
set_option maxHeartbeats 8000000 in
theorem told8_in (s : ByteArray) (hs : s.size ≤ 1099511627776) (Bl g cp N cap d : Nat) (cur : Array Value) (left : Int) (hlw : (Lit.int .i64 left).wf = true) (hd : d ≤ 100) (ao : Option Addr) (w : World) (hN : Hid ((trT s).length / 2 = N)) (hX : PtsAt w s Bl g cp cur) (hT : Tab w) (hw0 : 0 < w.heap.size) (hL : SpansAt w ao (wrdS s))
    (hrec : 0 < d → ∀ (a : Int), (Lit.int .i64 a).wf = true → ∀ W', Below w.heap.size w W' → Calls Tryd.prog 18 #[seqW Bl, .slice ao N cap, .int .i64 a, .int .i64 ((d - 1 : Nat) : Int)] W' fun e W'' => e = .returned (.bool true) ∧ Below W'.heap.size W' W'') :
    CallsIn Fence.wide 4 Tryd.prog 18 #[seqW Bl, .slice ao N cap, .int .i64 left, .int .i64 (d : Int)] w fun e w' => e = .returned (.bool true) ∧ Below w.heap.size w w' := by
  have hL' := hid hL
  have hX' := hid hX
  have hT' := hid hT
  have hrec' := hid hrec
  have hNs : N ≤ 549755813984 := by rw [← hN.out]; have := trT_len s; unfold need at this; omega
  have l1 := hX.1.lt
  have l2 := hX.2.1.lt
  obtain ⟨hl1, hl2⟩ := wf_i64 hlw
  clear hL hX hT hrec
  refine callsIn_of_wp_marks Tryd.func18 rfl trivial ?_ rfl
  simp only [Tryd.ntmps18, List.size_toArray, List.length_cons, List.length_nil, Nat.reduceAdd, Nat.reduceSub, Array.replicate_succ, Array.replicate_zero, List.push_toArray, List.append_toArray, List.nil_append, List.cons_append]
  gi_wp2
  have hI0 : T8I w Bl ao N cap left d 0 ((((((w.alloc (.cells #[seqW Bl] 35)).alloc (.cells #[.slice ao N cap] 39)).alloc (.cells #[.int .i64 left] 3)).alloc (.cells #[.int .i64 (d : Int)] 3)).alloc (.cells #[.bool false] 4)).alloc (.cells #[.int .i64 0] 3)) := by
    refine ⟨⟨?_, ?_, ?_, ?_, ?_, ?_, by simp⟩, by repeat (first | with_reducible exact Below.refl _ _ | with_reducible refine Below.setCell ?_ (by first | (simp; done) | (simp; omega)) _ | with_reducible refine below_drewN ?_ _ | with_reducible refine Below.alloc ?_ (by first | (simp; done) | (simp; omega)) _ | with_reducible refine Below.drew ?_)⟩
    · have h := (((((At.new (w) #[seqW Bl] 35).alloc (.cells #[.slice ao N cap] 39)).alloc (.cells #[.int .i64 left] 3)).alloc (.cells #[.int .i64 (d : Int)] 3)).alloc (.cells #[.bool false] 4)).alloc (.cells #[.int .i64 0] 3)
      simpa using h
    · have h := ((((At.new (w.alloc (.cells #[seqW Bl] 35)) #[.slice ao N cap] 39).alloc (.cells #[.int .i64 left] 3)).alloc (.cells #[.int .i64 (d : Int)] 3)).alloc (.cells #[.bool false] 4)).alloc (.cells #[.int .i64 0] 3)
      simpa using h
    · have h := (((At.new ((w.alloc (.cells #[seqW Bl] 35)).alloc (.cells #[.slice ao N cap] 39)) #[.int .i64 left] 3).alloc (.cells #[.int .i64 (d : Int)] 3)).alloc (.cells #[.bool false] 4)).alloc (.cells #[.int .i64 0] 3)
      simpa using h
    · have h := ((At.new (((w.alloc (.cells #[seqW Bl] 35)).alloc (.cells #[.slice ao N cap] 39)).alloc (.cells #[.int .i64 left] 3)) #[.int .i64 (d : Int)] 3).alloc (.cells #[.bool false] 4)).alloc (.cells #[.int .i64 0] 3)
      simpa using h
    · have h := (At.new ((((w.alloc (.cells #[seqW Bl] 35)).alloc (.cells #[.slice ao N cap] 39)).alloc (.cells #[.int .i64 left] 3)).alloc (.cells #[.int .i64 (d : Int)] 3)) #[.bool false] 4).alloc (.cells #[.int .i64 0] 3)
      simpa using h
    · have h := At.new (((((w.alloc (.cells #[seqW Bl] 35)).alloc (.cells #[.slice ao N cap] 39)).alloc (.cells #[.int .i64 left] 3)).alloc (.cells #[.int .i64 (d : Int)] 3)).alloc (.cells #[.bool false] 4)) #[.int .i64 0] 3
      simpa using h
  have hz0 : ((((((w.alloc (.cells #[seqW Bl] 35)).alloc (.cells #[.slice ao N cap] 39)).alloc (.cells #[.int .i64 left] 3)).alloc (.cells #[.int .i64 (d : Int)] 3)).alloc (.cells #[.bool false] 4)).alloc (.cells #[.int .i64 0] 3)).heap.size = w.heap.size + 6 := by simp
  generalize ((((((w.alloc (.cells #[seqW Bl] 35)).alloc (.cells #[.slice ao N cap] 39)).alloc (.cells #[.int .i64 left] 3)).alloc (.cells #[.int .i64 (d : Int)] 3)).alloc (.cells #[.bool false] 4)).alloc (.cells #[.int .i64 0] 3)) = w1 at *
  have hB0 := hI0.2
  refine range_tellF (n := 4) (by decide) (gf := 32) (lb := #[.pointer (some ⟨Bl, 0, none⟩)]) rfl (enters_of Tryd.func32 (by kernel_rfl) rfl)
    (words_tellF (4 - 1) (by decide) Bl w.heap.size g cp s hs cur w1 (hX'.out.kept hB0) (hT'.out.below hB0 hw0) hw0 hB0.size) (Below.refl _ _) (fun _ => rfl) HeldS.trans (fun W l r r' h1 h2 h3 => heldT_put (by omega) h2 (by omega) h3)
    (T8I w Bl ao N cap left d) (T8X w) (t8I_free (by omega)) (fun c => t8X_free (by omega) c) hI0 (T8A w s Bl ao N cap left d) (fun x a' => t8A_own x a') ?assign ?body ?done ?stop
  case assign =>
    intro l x W KK hx hI hKK
    obtain ⟨⟨A, C⟩, hAC⟩ : ∃ y, Hid (((trT s).getD (2 * x) 0, (trT s).getD (2 * x + 1) 0) = y) := ⟨_, rfl⟩
    have e1 : (trT s).getD (2 * x) 0 = A := congrArg Prod.fst hAC.out
    have e2 : (trT s).getD (2 * x + 1) 0 = C := congrArg Prod.snd hAC.out
    rw [encW, e1, e2]
    have hb : Below W.heap.size W (W.alloc (.cells #[.int .i64 (A : Int), .int .i64 (C : Int)] 38)) := by repeat (first | with_reducible exact Below.refl _ _ | with_reducible refine Below.setCell ?_ (by first | (simp; done) | (simp; omega)) _ | with_reducible refine below_drewN ?_ _ | with_reducible refine Below.alloc ?_ (by first | (simp; done) | (simp; omega)) _ | with_reducible refine Below.drew ?_)
    have hgt : w.heap.size + 6 ≤ W.heap.size := hI.1.2.2.2.2.2.2
    have hK2 := fun a' => hKK a' _ ((keeps_below hb).from _) (HeldT.of_below hb (by omega)) (t8I_kept hI hb)
    clear hKK hI hb e1 e2
    gi_wp2
    exact ⟨W.heap.size, A, C, hAC, hgt, At.new W _ _, rfl⟩
  case body =>
    rintro l r a' W hll ⟨rec, hrec⟩ hlt ⟨⟨h0, h1, h2, h3, h4, h5, hzW⟩, hB⟩ ⟨gx, A, C, hAC, hgx, hAt, rfl⟩
    have hTl := wrdS_at hlt
    rw [hAC.out] at hTl
    rw [hN.out] at hlt
    obtain ⟨gl, rfl, hg, cg, ch⟩ := hL'.out _ _ _ hTl
    have hli : (r : Int) < (N : Int) := by omega
    have hge : decide ((N : Int) ≤ (r : Int)) = false := by simp; omega
    have hge' : (decide (N ≤ r)) = false := by simp; omega
    have cg' := (hB.cell (p := ⟨gl, r * 2, none⟩) hg).trans cg
    have ch' := (hB.cell (p := ⟨gl, r * 2 + 1, none⟩) hg).trans ch
    have k0 := h1.cell 0
    have k2 := h5.cell 0
    have x0 := hAt.cell 0
    have x1 := hAt.cell 1
    simp only [List.getElem?_toArray, List.getElem?_cons_zero, List.getElem?_cons_succ] at k0 k2 x0 x1
    have t0 := hid h0
    have t1 := hid h1
    have t2 := hid h2
    have t3 := hid h3
    have t4 := hid h4
    have t5 := hid h5
    clear hTl cg ch h0 h1 h2 h3 h4 h5 hAC hAt
    have hS0 : W.drew.cell? ⟨w.heap.size + 1, 0, none⟩ = some (.slice (some ⟨gl, 0, none⟩) N cap) ∧ W.drew.cell? ⟨w.heap.size + 1 + 1 + 1 + 1 + 1, 0, none⟩ = some (.int .i64 (r : Int)) ∧ W.drew.cell? ⟨gx, 0, none⟩ = some (.int .i64 (A : Int)) ∧ W.drew.cell? ⟨gx, 1, none⟩ = some (.int .i64 (C : Int)) ∧ W.drew.cell? ⟨gl, r * 2, none⟩ = some (.int .i64 (A : Int)) ∧ W.drew.cell? ⟨gl, r * 2 + 1, none⟩ = some (.int .i64 (C : Int)) := ⟨k0, k2, x0, x1, cg', ch'⟩
    clear k0 k2 x0 x1 cg' ch'
    gi_wp2_with fail
    refine wpIn_region_round (S := fun W' => W'.cell? ⟨w.heap.size + 1, 0, none⟩ = some (.slice (some ⟨gl, 0, none⟩) N cap) ∧ W'.cell? ⟨w.heap.size + 1 + 1 + 1 + 1 + 1, 0, none⟩ = some (.int .i64 (r : Int)) ∧ W'.cell? ⟨gx, 0, none⟩ = some (.int .i64 (A : Int)) ∧ W'.cell? ⟨gx, 1, none⟩ = some (.int .i64 (C : Int)) ∧ W'.cell? ⟨gl, r * 2, none⟩ = some (.int .i64 (A : Int)) ∧ W'.cell? ⟨gl, r * 2 + 1, none⟩ = some (.int .i64 (C : Int))) (by kernel_rfl) (by kernel_rfl) (fun _ _ h => h) hS0 (fun hHeld => ?_)
    (refine' wpAnyH_take (i := 0) rfl (by kernel_rfl) (by kernel_rfl) (by kernel_rfl) (fun _ _ _ h => h) (Or.inl ⟨by rfl, ?_⟩) (by assumption) ?_; rotate_left; (· (intro wq hq; (try dsimp only at hq); go_simp; first | done | with_reducible rfl)); simp only [Act.put, List.getElem_toArray, List.getElem_cons_zero, List.setIfInBounds_toArray, List.set_cons_zero, List.set_cons_succ])
    (refine' wpAnyH_take (i := 1) rfl (by kernel_rfl) (by kernel_rfl) (by kernel_rfl) (fun _ _ _ h => h) (Or.inl ⟨by rfl, ?_⟩) (by assumption) ?_; rotate_left; (· (intro wq hq; (try dsimp only at hq); go_simp; first | done | with_reducible rfl)); simp only [Act.put, List.getElem_toArray, List.getElem_cons_zero, List.getElem_cons_succ, List.setIfInBounds_toArray, List.set_cons_zero, List.set_cons_succ])
    (refine' wpAnyH_take (i := 2) rfl (by kernel_rfl) (by kernel_rfl) (by kernel_rfl) (fun _ _ _ h => h) (Or.inl ⟨by rfl, ?_⟩) (by assumption) ?_; rotate_left; (· (intro wq hq; (try dsimp only at hq); go_simp; first | done | with_reducible rfl)); simp only [Act.put, List.getElem_toArray, List.getElem_cons_zero, List.getElem_cons_succ, List.setIfInBounds_toArray, List.set_cons_zero, List.set_cons_succ])
    (refine' wpAnyH_take (i := 3) rfl (by kernel_rfl) (by kernel_rfl) (by kernel_rfl) (fun _ _ _ h => h) (Or.inl ⟨by rfl, ?_⟩) (by assumption) ?_; rotate_left; (· (intro wq hq; (try dsimp only at hq); go_simp; first | done | with_reducible rfl)); simp only [Act.put, List.getElem_toArray, List.getElem_cons_zero, List.getElem_cons_succ, List.setIfInBounds_toArray, List.set_cons_zero, List.set_cons_succ])
    (refine' wpAnyH_take (i := 4) rfl (by kernel_rfl) (by kernel_rfl) (by kernel_rfl) (fun _ _ _ h => h) (Or.inl ⟨by rfl, ?_⟩) (by assumption) ?_; rotate_left; (· (intro wq hq; (try dsimp only at hq); go_simp; first | done | with_reducible rfl)); simp only [Act.put, List.getElem_toArray, List.getElem_cons_zero, List.getElem_cons_succ, List.setIfInBounds_toArray, List.set_cons_zero, List.set_cons_succ])
    (refine' wpAnyH_take (i := 5) rfl (by kernel_rfl) (by kernel_rfl) (by kernel_rfl) (fun _ _ _ h => h) (Or.inl ⟨by rfl, ?_⟩) (by assumption) ?_; rotate_left; (· (intro wq hq; (try dsimp only at hq); go_simp; first | done | with_reducible rfl)); simp only [Act.put, List.getElem_toArray, List.getElem_cons_zero, List.getElem_cons_succ, List.setIfInBounds_toArray, List.set_cons_zero, List.set_cons_succ])
    (refine' wpAnyH_take (i := 6) rfl (by kernel_rfl) (by kernel_rfl) (by kernel_rfl) (fun _ _ _ h => h) (Or.inl ⟨by rfl, ?_⟩) (by assumption) ?_; rotate_left; (· (intro wq hq; (try dsimp only at hq); go_simp; first | done | with_reducible rfl)); simp only [Act.put, List.getElem_toArray, List.getElem_cons_zero, List.getElem_cons_succ, List.setIfInBounds_toArray, List.set_cons_zero, List.set_cons_succ])
    (refine' wpAnyH_take (i := 7) rfl (by kernel_rfl) (by kernel_rfl) (by kernel_rfl) (fun _ _ _ h => h) (Or.inl ⟨by rfl, ?_⟩) (by assumption) ?_; rotate_left; (· (intro wq hq; (try dsimp only at hq); go_simp; first | done | with_reducible rfl)); simp only [Act.put, List.getElem_toArray, List.getElem_cons_zero, List.getElem_cons_succ, List.setIfInBounds_toArray, List.set_cons_zero, List.set_cons_succ])
    (refine' wpAnyH_take (i := 8) rfl (by kernel_rfl) (by kernel_rfl) (by kernel_rfl) (fun _ _ _ h => h) (Or.inl ⟨by rfl, ?_⟩) (by assumption) ?_; rotate_left; (· (intro wq hq; (try dsimp only at hq); go_simp; first | done | with_reducible rfl)); simp only [Act.put, List.getElem_toArray, List.getElem_cons_zero, List.getElem_cons_succ, List.setIfInBounds_toArray, List.set_cons_zero, List.set_cons_succ])
    (refine' wpAnyH_take (i := 9) rfl (by kernel_rfl) (by kernel_rfl) (by kernel_rfl) (fun _ _ _ h => h) (Or.inl ⟨by rfl, ?_⟩) (by assumption) ?_; rotate_left; (· (intro wq hq; (try dsimp only at hq); go_simp; first | done | with_reducible rfl)); simp only [Act.put, List.getElem_toArray, List.getElem_cons_zero, List.getElem_cons_succ, List.setIfInBounds_toArray, List.set_cons_zero, List.set_cons_succ])
    (refine' wpAnyH_take (i := 10) rfl (by kernel_rfl) (by kernel_rfl) (by kernel_rfl) (fun _ _ _ h => h) (Or.inl ⟨by rfl, ?_⟩) (by assumption) ?_; rotate_left; (· (intro wq hq; (try dsimp only at hq); go_simp; first | done | with_reducible rfl)); simp only [Act.put, List.getElem_toArray, List.getElem_cons_zero, List.getElem_cons_succ, List.setIfInBounds_toArray, List.set_cons_zero, List.set_cons_succ])
    (refine' wpAnyH_take (i := 11) rfl (by kernel_rfl) (by kernel_rfl) (by kernel_rfl) (fun _ _ _ h => h) (Or.inl ⟨by rfl, ?_⟩) (by assumption) ?_; rotate_left; (· (intro wq hq; (try dsimp only at hq); go_simp; first | done | with_reducible rfl)); simp only [Act.put, List.getElem_toArray, List.getElem_cons_zero, List.getElem_cons_succ, List.setIfInBounds_toArray, List.set_cons_zero, List.set_cons_succ])
    refine wpAnyH_done (by kernel_rfl) ?_ _
    rename_i Kz hKz
    refine hKz _ _ ?_
    clear hKz Kz hHeld hS0 hge hge' hli
    obtain ⟨X, hX2⟩ : ∃ X, X = (W.setCell ⟨w.heap.size + 1 + 1 + 1 + 1 + 1, 0, none⟩ (.int .i64 ((r : Int) + 1))).drew := ⟨_, rfl⟩
    have c0 := t0.out.cell 0
    have c1 := t1.out.cell 0
    have c2 := t2.out.cell 0
    have c3 := t3.out.cell 0
    have c5 := t5.out.cell 0
    have f5 := t5.out.frozen 0
    have c4 := t4.out.cell 0
    have f4 := t4.out.frozen 0
    simp only [List.getElem?_toArray, List.getElem?_cons_zero] at c0 c1 c2 c3 c4 c5
    have hX0 := hid (show T8I w Bl (some ⟨gl, 0, none⟩) N cap left d (r + 1) X by
      rw [hX2]
      refine ⟨⟨(t0.out.other (p := ⟨w.heap.size + 1 + 1 + 1 + 1 + 1, 0, none⟩) (by show w.heap.size ≠ w.heap.size + 1 + 1 + 1 + 1 + 1; omega) _).drew, (t1.out.other (p := ⟨w.heap.size + 1 + 1 + 1 + 1 + 1, 0, none⟩) (by show w.heap.size + 1 ≠ w.heap.size + 1 + 1 + 1 + 1 + 1; omega) _).drew, (t2.out.other (p := ⟨w.heap.size + 1 + 1 + 1 + 1 + 1, 0, none⟩) (by show w.heap.size + 1 + 1 ≠ w.heap.size + 1 + 1 + 1 + 1 + 1; omega) _).drew, (t3.out.other (p := ⟨w.heap.size + 1 + 1 + 1 + 1 + 1, 0, none⟩) (by show w.heap.size + 1 + 1 + 1 ≠ w.heap.size + 1 + 1 + 1 + 1 + 1; omega) _).drew, (t4.out.other (p := ⟨w.heap.size + 1 + 1 + 1 + 1 + 1, 0, none⟩) (by show w.heap.size + 1 + 1 + 1 + 1 ≠ w.heap.size + 1 + 1 + 1 + 1 + 1; omega) _).drew, ?_, Nat.le_trans hzW (KeepsOthers.setCell _ _ _).1⟩, (hB.setCell (p := ⟨w.heap.size + 1 + 1 + 1 + 1 + 1, 0, none⟩) (by show w.heap.size ≤ w.heap.size + 1 + 1 + 1 + 1 + 1; omega) _).drew⟩
      have h := (t5.out.set 0 (.int .i64 ((r : Int) + 1))).drew
      simpa using h)
    have hXk := hid (show HeldT w.heap.size (w1.heap.size + 1 + 1) g W X by rw [hX2]; exact (heldT_set _ (by omega) (by omega) (by omega)).trans (HeldT.of_below (Below.refl _ _).drew (Nat.le_trans (by omega) (KeepsOthers.setCell _ _ _).1)))
    have hXf := hid (show KeepsFrom w1.heap.size W X by rw [hX2]; exact ((KeepsOthers.setCell _ _ _).trans (KeepsOthers.drew _)).from _)
    have hXB := hid hX0.out.2
    clear t0 t1 t2 t3 t4 t5 hl1 hl2
    by_cases hcall : r + 1 = 2 ∧ 0 < d
    · obtain ⟨hr2, hd0⟩ := hcall
      have e2 : ((r : Int) + 1 == 2) = true := by rw [beq_iff_eq]; omega
      have hdp : decide ((0 : Int) < (d : Int)) = true := by simp; omega
      have hdp' : decide (0 < d) = true := by simp; omega
      obtain ⟨e, he⟩ : ∃ e, Hid (d - 1 = e) := ⟨_, rfl⟩
      have hd1 : (d : Int) - 1 = (e : Int) := by have := he.out; omega
      have hdw : IntKind.i64.wrap (e : Int) = (e : Int) := by rw [IntKind.wrap_i64]; have := he.out; omega
      obtain ⟨a, ha⟩ : ∃ a, IntKind.i64.wrap (left + 1) = a := ⟨_, rfl⟩
      have haw : (Lit.int .i64 a).wf = true := by rw [← ha]; exact wf_wrap64 _
      have hcl := hid (hrec'.out hd0 a haw X hXB.out)
      rw [he.out] at hcl
      clear he haw hd0 hr2
      gi_wp2_with fail
      rw [← hX2]
      refine ⟨trivial, ?_⟩
      refine (CallsIn.inRound l (callsIn_wide.2 hcl.out)).mono ?_
      rintro e' W2 ⟨rfl, hb2⟩
      have hq0 := hid (t8I_kept hX0.out hb2)
      have hqk := hid (hXk.out.trans (HeldT.of_below hb2 hXB.out.size))
      have hqf := hid (hXf.out.trans ((keeps_below hb2).from _))
      clear hb2 hcl c0 c1 c2 c3 c4 f4 c5 f5
      have d2 := hq0.out.1.2.2.1.cell 0
      have d5 := hq0.out.1.2.2.2.2.2.1.cell 0
      have d4 := hq0.out.1.2.2.2.2.1.cell 0
      have g4 := hq0.out.1.2.2.2.2.1.frozen 0
      simp only [List.getElem?_toArray, List.getElem?_cons_zero] at d2 d5 d4
      by_cases hleft : left = (r : Int) + 1
      · have e9 : ((r : Int) + 1 == left) = true := by simp [hleft]
        have e9' : (((r + 1 : Nat) : Int) == left) = true := by simp [hleft]
        clear hleft
        gi_wp2
        exact ⟨hqf.out.trans ((KeepsOthers.setCell _ _ _).from _), hqk.out.trans (heldT_set _ (by omega) (by omega) (by omega)), rfl, at_set1 hq0.out.1.2.2.2.2.1 (.bool true), hq0.out.2.setCell (p := ⟨w.heap.size + 1 + 1 + 1 + 1, 0, none⟩) (by show w.heap.size ≤ w.heap.size + 1 + 1 + 1 + 1; omega) _⟩
      · have e9 : ((r : Int) + 1 == left) = false := by rw [beq_eq_false_iff_ne]; exact fun e => hleft e.symm
        have e9' : (((r + 1 : Nat) : Int) == left) = false := by rw [beq_eq_false_iff_ne]; exact fun e => hleft (by rw [← e]; simp)
        clear hleft
        gi_wp2
        exact ⟨hqf.out, hqk.out, hq0.out⟩
    · have hq0 := hX0
      have hqk := hXk
      have hqf := hXf
      rw [hX2] at hq0 hqk hqf
      clear hX0 hXk hXf hXB hX2
      by_cases hr2 : r + 1 = 2
      · have e2 : ((r : Int) + 1 == 2) = true := by rw [beq_iff_eq]; omega
        obtain rfl : d = 0 := by omega
        clear hcall hr2
        gi_wp2_with fail
        refine ⟨trivial, ?_⟩
        by_cases hleft : left = (r : Int) + 1
        · have e9 : ((r : Int) + 1 == left) = true := by simp [hleft]
          have e9' : (((r + 1 : Nat) : Int) == left) = true := by simp [hleft]
          clear hleft
          gi_wp2
          exact ⟨hqf.out.trans ((KeepsOthers.setCell _ _ _).from _), hqk.out.trans (heldT_set _ (by omega) (by omega) (by omega)), rfl, at_set1 hq0.out.1.2.2.2.2.1 (.bool true), hq0.out.2.setCell (p := ⟨w.heap.size + 1 + 1 + 1 + 1, 0, none⟩) (by show w.heap.size ≤ w.heap.size + 1 + 1 + 1 + 1; omega) _⟩
        · have e9 : ((r : Int) + 1 == left) = false := by rw [beq_eq_false_iff_ne]; exact fun e => hleft e.symm
          have e9' : (((r + 1 : Nat) : Int) == left) = false := by rw [beq_eq_false_iff_ne]; exact fun e => hleft (by rw [← e]; simp)
          clear hleft
          gi_wp2
          exact ⟨hqf.out, hqk.out, hq0.out⟩
      · have e2 : ((r : Int) + 1 == 2) = false := by rw [beq_eq_false_iff_ne]; omega
        clear hcall hr2
        gi_wp2_with fail
        refine ⟨trivial, ?_⟩
        by_cases hleft : left = (r : Int) + 1
        · have e9 : ((r : Int) + 1 == left) = true := by simp [hleft]
          have e9' : (((r + 1 : Nat) : Int) == left) = true := by simp [hleft]
          clear hleft
          gi_wp2
          exact ⟨hqf.out.trans ((KeepsOthers.setCell _ _ _).from _), hqk.out.trans (heldT_set _ (by omega) (by omega) (by omega)), rfl, at_set1 hq0.out.1.2.2.2.2.1 (.bool true), hq0.out.2.setCell (p := ⟨w.heap.size + 1 + 1 + 1 + 1, 0, none⟩) (by show w.heap.size ≤ w.heap.size + 1 + 1 + 1 + 1; omega) _⟩
        · have e9 : ((r : Int) + 1 == left) = false := by rw [beq_eq_false_iff_ne]; exact fun e => hleft e.symm
          have e9' : (((r + 1 : Nat) : Int) == left) = false := by rw [beq_eq_false_iff_ne]; exact fun e => hleft (by rw [← e]; simp)
          clear hleft
          gi_wp2
          exact ⟨hqf.out, hqk.out, hq0.out⟩
  case done =>
    rintro D W hD ⟨⟨-, h1, -, -, h4, h5, hzW⟩, hB⟩ hK
    rw [hN.out] at h5
    have c1 := h1.cell 0
    have c4 := h4.cell 0
    have c5 := h5.cell 0
    have f4 := h4.frozen 0
    simp only [List.getElem?_toArray, List.getElem?_cons_zero] at c1 c4 c5
    have eN : ((N : Int) == (N : Int)) = true := by simp
    have hB2 := hB.setCell (p := ⟨w.heap.size + 1 + 1 + 1 + 1, 0, none⟩) (by show w.heap.size ≤ w.heap.size + 1 + 1 + 1 + 1; omega) (.bool true)
    have hK' : (W.setCell ⟨w.heap.size + 1 + 1 + 1 + 1, 0, none⟩ (.bool true)).heap[D]? = some (.deferred (some [])) := (Below.heap_setCell W ⟨w.heap.size + 1 + 1 + 1 + 1, 0, none⟩ _ D (by show D ≠ w.heap.size + 1 + 1 + 1 + 1; omega)).trans hK
    gi_wp2
    refine ⟨by simp, .inl ⟨_, _, rfl, run_takeDeferred hK', ?_⟩⟩
    have hc5 := cell_kept (World.cell?_setCell_same' W ⟨w.heap.size + 1 + 1 + 1 + 1, 0, none⟩ (.bool true) (by rw [c4]; rfl)) (grownBy_putObj' _ D (.deferred none)) (fun r e => by cases e; exact ⟨_, hK', rfl⟩)
    refine ⟨.bool true, ?_, rfl, hB2.trans (belowK_b (w := w) (Nat.le_refl _) _ D _ _ (by omega) hK' rfl rfl)⟩
    simp [results, Tryd.f18, go_sem, hc5]
  case stop =>
    rintro D c r W hD - ⟨rfl, h4, hB⟩ hK
    have c4 := h4.cell 0
    simp only [List.getElem?_toArray, List.getElem?_cons_zero] at c4
    gi_wp2
    refine ⟨by simp, .inl ⟨_, _, rfl, run_takeDeferred hK, ?_⟩⟩
    have hc5 := cell_kept c4 (grownBy_putObj' _ D (.deferred none)) (fun r e => by cases e; exact ⟨_, hK, rfl⟩)
    refine ⟨.bool true, ?_, rfl, hB.trans (belowK_b (w := w) (Nat.le_refl _) _ D _ _ (by omega) hK rfl rfl)⟩
    simp [results, Tryd.f18, go_sem, hc5]
theorem told8_calls (s : ByteArray) (hs : s.size ≤ 1099511627776) (Bl g cp N cap : Nat) (cur : Array Value) (ao : Option Addr) (hN : Hid ((trT s).length / 2 = N)) : ∀ (d : Nat), d ≤ 100 → ∀ (left : Int), (Lit.int .i64 left).wf = true → ∀ (w : World), PtsAt w s Bl g cp cur → Tab w → 0 < w.heap.size → SpansAt w ao (wrdS s) →
    Calls Tryd.prog 18 #[seqW Bl, .slice ao N cap, .int .i64 left, .int .i64 (d : Int)] w fun e w' => e = .returned (.bool true) ∧ Below w.heap.size w w'
  | 0, hd, left, hl, w, hX, hT, hw0, hL => callsIn_wide.1 (told8_in s hs Bl g cp N cap 0 cur left hl hd ao w hN hX hT hw0 hL (fun h => by omega))
  | d + 1, hd, left, hl, w, hX, hT, hw0, hL => callsIn_wide.1 (told8_in s hs Bl g cp N cap (d + 1) cur left hl hd ao w hN hX hT hw0 hL (fun _ a ha W' hb => told8_calls s hs Bl g cp N cap cur ao hN d (by omega) a ha W' (hX.kept hb) (hT.below hb hw0) (Nat.lt_of_lt_of_le hw0 hb.size) (hL.kept rfl hb)))
end Go.Proofs.YtmgbgphlkhkldaaDoor
