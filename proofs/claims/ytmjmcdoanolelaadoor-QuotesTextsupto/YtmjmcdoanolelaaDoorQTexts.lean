/-
  The walk of quarrylaw07.QuotesTexts.
-/
import Derived.Test.YtmjmcdoanolelaaDoorQuoAwake
import Derived.Test.YtmjmcdoanolelaaDoorRefTexts
import Derived.Test.YtmjmcdoanolelaaDoorRoundQuiet
namespace Go.Proofs.YtmjmcdoanolelaaDoor
open Go.RowKit Go.Shelf

attribute [local go_sem] Oper.semAt_some

/-- What stands through all rounds. -/
def TeS (w V : World) (s : ByteArray) (kk : Int) (ao : Option Addr) (N cap bm bs g b5 b6 : Nat) (W : World) : Prop :=
  At W w.heap.size #[.int .i64 kk] 3 ∧ At W (w.heap.size + 1) #[.bool false] 4 ∧ At W b5 #[.slice ao N cap] 30 ∧ At W b6 #[.func (.func 37) #[] #[.pointer (some ⟨bm, 0, none⟩), .pointer (some ⟨bs, 0, none⟩)]] 33 ∧ TxAt W s bm bs g ∧ Below V.heap.size V W ∧ Below w.heap.size w W
section
variable {w V W Z : World} {s : ByteArray} {kk : Int} {ao : Option Addr} {N cap bm bs g b5 b6 : Nat}
theorem TeS.kept (h : TeS w V s kk ao N cap bm bs g b5 b6 W) (hb : Below W.heap.size W Z) : TeS w V s kk ao N cap bm bs g b5 b6 Z := by
  obtain ⟨h1, h2, h3, h4, h5, h6, h7⟩ := h
  exact ⟨h1.keptAll hb, h2.keptAll hb, h3.keptAll hb, h4.keptAll hb, h5.kept hb, h6.trans (hb.mono h6.size), h7.trans (hb.mono h7.size)⟩
theorem TeS.own (h : TeS w V s kk ao N cap bm bs g b5 b6 W) {B : Nat} (hB : w.heap.size ≤ B) (hV : V.heap.size ≤ B) {row : Option Nat} (hg : W.grownBy Z row) (hr : ∀ r, row = some r → B ≤ r ∧ ∃ o : Obj, W.heap[r]? = some o ∧ o.isCells = false) : TeS w V s kk ao N cap bm bs g b5 b6 Z := by
  obtain ⟨h1, h2, h3, h4, h5, h6, h7⟩ := h
  have hr' := fun r e => (hr r e).2
  exact ⟨h1.own hg hr', h2.own hg hr', h3.own hg hr', h4.own hg hr', h5.own hg hr', ownFrom_below (β := List Nat) (Nat.le_refl _) hV [] W Z row h6 hg hr, ownFrom_below (β := List Nat) (Nat.le_refl _) hB [] W Z row h7 hg hr⟩
theorem TeS.other (h : TeS w V s kk ao N cap bm bs g b5 b6 W) {p : Addr} (d5 : b5 < p.block) (d6 : b6 < p.block) (dm : bm < p.block) (ds : bs < p.block) (dg : g < p.block) (dw : w.heap.size + 1 < p.block) (dV : V.heap.size ≤ p.block) (v : Value) : TeS w V s kk ao N cap bm bs g b5 b6 (W.setCell p v) := by
  obtain ⟨h1, h2, h3, h4, h5, h6, h7⟩ := h
  exact ⟨h1.other (by omega) v, h2.other (by omega) v, h3.other (by omega) v, h4.other (by omega) v, h5.other (by omega) (by omega) (by omega) v, h6.setCell dV v, h7.setCell (by omega) v⟩
theorem TeS.k (h : TeS w V s kk ao N cap bm bs g b5 b6 W) : At W w.heap.size #[.int .i64 kk] 3 := h.1
theorem TeS.res (h : TeS w V s kk ao N cap bm bs g b5 b6 W) : At W (w.heap.size + 1) #[.bool false] 4 := h.2.1
theorem TeS.lst (h : TeS w V s kk ao N cap bm bs g b5 b6 W) : At W b5 #[.slice ao N cap] 30 := h.2.2.1
theorem TeS.seq (h : TeS w V s kk ao N cap bm bs g b5 b6 W) : At W b6 #[.func (.func 37) #[] #[.pointer (some ⟨bm, 0, none⟩), .pointer (some ⟨bs, 0, none⟩)]] 33 := h.2.2.2.1
theorem TeS.tx (h : TeS w V s kk ao N cap bm bs g b5 b6 W) : TxAt W s bm bs g := h.2.2.2.2.1
theorem TeS.bV (h : TeS w V s kk ao N cap bm bs g b5 b6 W) : Below V.heap.size V W := h.2.2.2.2.2.1
theorem TeS.bw (h : TeS w V s kk ao N cap bm bs g b5 b6 W) : Below w.heap.size w W := h.2.2.2.2.2.2
/-- The list's element number r. -/
theorem TeS.at (h : TeS w V s kk ao N cap bm bs g b5 b6 W) (hL : SpansAt V ao (spansS s)) (hN : (spansS s).length = N) {r A C : Nat} (hr : r < N) (hAC : spn s r = (A, C)) : ∃ gl, ao = some ⟨gl, 0, none⟩ ∧ W.cell? ⟨gl, r * 2, none⟩ = some (.int .i64 (A : Int)) ∧ W.cell? ⟨gl, r * 2 + 1, none⟩ = some (.int .i64 (C : Int)) := by
  have hT := spn_at hN hr
  rw [hAC] at hT
  obtain ⟨gl, rfl, hg, cg, ch⟩ := hL _ _ _ hT
  exact ⟨gl, rfl, (h.bV.cell (p := ⟨gl, r * 2, none⟩) hg).trans cg, (h.bV.cell (p := ⟨gl, r * 2 + 1, none⟩) hg).trans ch⟩
end
/-- The frame in which a round of the first range begins. -/
def TeA1 (w : World) (s : ByteArray) (kk : Int) (ao : Option Addr) (N cap bm bs b5 b6 b7 : Nat) (x : Nat) (a' : Act) (W : World) : Prop :=
  ∃ (gx A C : Nat), Hid (spn s x = (A, C)) ∧ b7 < gx ∧ At W gx #[.int .i64 (A : Int), .int .i64 (C : Int)] 36 ∧ a' = { tmps := #[.string s, .int .i64 kk, undef, .pointer (some ⟨w.heap.size, 0, none⟩), .pointer (some ⟨w.heap.size + 1, 0, none⟩), .pointer (some ⟨b5, 0, none⟩), .pointer (some ⟨b6, 0, none⟩), .pointer (some ⟨b7, 0, none⟩), .pointer (some ⟨gx, 0, none⟩), undef, .string s, .slice ao N cap, .string s, .func (.func 37) #[] #[.pointer (some ⟨bm, 0, none⟩), .pointer (some ⟨bs, 0, none⟩)], .func (.func 37) #[] #[.pointer (some ⟨bm, 0, none⟩), .pointer (some ⟨bs, 0, none⟩)], .bool false, .bool false, .bool true, .bool false, .bool false, .func (.func 37) #[] #[.pointer (some ⟨bm, 0, none⟩), .pointer (some ⟨bs, 0, none⟩)], .agg #[.int .i64 (A : Int), .int .i64 (C : Int)], undef, undef, undef, undef, undef, undef, undef, undef, undef, undef, undef, undef, undef, undef, undef, undef, undef, undef, undef, undef, undef, undef, undef, undef, undef, undef, undef, undef, undef, undef, undef, undef, undef, undef, undef, undef, undef, undef, undef, undef, undef, undef, undef, undef, undef, undef, undef, undef, undef, undef, undef, undef, undef, undef, undef, undef, undef, undef, undef, undef, undef, undef], defers := [] }
/-- The frame in which a round of the second range begins. -/
def TeA2 (w : World) (s : ByteArray) (kk : Int) (ao : Option Addr) (N cap bm bs b5 b6 b7 : Nat) (u39 u40 u41 u42 u43 u44 u45 u46 u47 u48 u49 u50 u51 u52 u53 : Value) (x : Nat) (a' : Act) (W : World) : Prop :=
  ∃ (gx A C : Nat), Hid (spn s x = (A, C)) ∧ b7 < gx ∧ At W gx #[.int .i64 (A : Int), .int .i64 (C : Int)] 36 ∧ a' = { tmps := #[.string s, .int .i64 kk, undef, .pointer (some ⟨w.heap.size, 0, none⟩), .pointer (some ⟨w.heap.size + 1, 0, none⟩), .pointer (some ⟨b5, 0, none⟩), .pointer (some ⟨b6, 0, none⟩), .pointer (some ⟨b7, 0, none⟩), undef, .pointer (some ⟨gx, 0, none⟩), .string s, .slice ao N cap, .string s, .func (.func 37) #[] #[.pointer (some ⟨bm, 0, none⟩), .pointer (some ⟨bs, 0, none⟩)], .func (.func 37) #[] #[.pointer (some ⟨bm, 0, none⟩), .pointer (some ⟨bs, 0, none⟩)], .bool false, .bool false, .bool true, .bool false, .bool false, .func (.func 37) #[] #[.pointer (some ⟨bm, 0, none⟩), .pointer (some ⟨bs, 0, none⟩)], undef, undef, undef, undef, undef, undef, undef, undef, undef, undef, undef, undef, undef, undef, undef, undef, undef, undef, u39, u40, u41, u42, u43, u44, u45, u46, u47, u48, u49, u50, u51, u52, u53, .func (.func 37) #[] #[.pointer (some ⟨bm, 0, none⟩), .pointer (some ⟨bs, 0, none⟩)], .agg #[.int .i64 (A : Int), .int .i64 (C : Int)], undef, undef, undef, undef, undef, undef, undef, undef, undef, undef, undef, undef, undef, undef, undef, undef, undef, undef, undef, undef, undef, undef, undef, undef, undef, undef, undef, undef], defers := [] }
section
variable {w : World} {s : ByteArray} {kk : Int} {ao : Option Addr} {N cap bm bs b5 b6 b7 B : Nat} {u39 u40 u41 u42 u43 u44 u45 u46 u47 u48 u49 u50 u51 u52 u53 : Value}
theorem teA1_own (x : Nat) (a' : Act) : OwnFrom B (fun (_ : Unit) W => TeA1 w s kk ao N cap bm bs b5 b6 b7 x a' W) := fun _ X Y row hs hg hr => by
  obtain ⟨gx, A, C, h1, h4, h5, h6⟩ := hs
  exact ⟨gx, A, C, h1, h4, h5.own hg (fun r e => (hr r e).2), h6⟩
theorem teA2_own (x : Nat) (a' : Act) : OwnFrom B (fun (_ : Unit) W => TeA2 w s kk ao N cap bm bs b5 b6 b7 u39 u40 u41 u42 u43 u44 u45 u46 u47 u48 u49 u50 u51 u52 u53 x a' W) := fun _ X Y row hs hg hr => by
  obtain ⟨gx, A, C, h1, h4, h5, h6⟩ := hs
  exact ⟨gx, A, C, h1, h4, h5.own hg (fun r e => (hr r e).2), h6⟩
end

set_option maxRecDepth 100000 in
set_option maxHeartbeats 8000000 in
theorem qtexts_in (s : ByteArray) (hs : s.size ≤ 1048576) (kk : Int) (w : World) (hT : Tab w) (hw0 : 0 < w.heap.size) :
    CallsIn Fence.wide 3 Tryd.prog 5 #[.string s, .int .i64 kk] w fun e w' => e = .returned (.bool true) ∧ Below w.heap.size w w' := by
  have hnf : ∀ (f : Fn) (a b : Array Value) (w : World), Sem.run Tryd.prog (binOp BinOp.eql 33 (.func f a b) .nilFunc) w = .ok (.bool false) w := fun _ _ _ _ => by rfl
  have hT' := hid hT
  obtain ⟨N, hN⟩ : ∃ N, Hid ((spansS s).length = N) := ⟨_, rfl⟩
  have hNs : N ≤ 1048577 := by rw [← hN.out]; have := spansS_len s; omega
  clear hT
  refine callsIn_of_wp_marks Tryd.func5 rfl trivial ?_ rfl
  simp only [Tryd.ntmps5, List.size_toArray, List.length_cons, List.length_nil, Nat.reduceAdd, Nat.reduceSub, Array.replicate_succ, Array.replicate_zero, List.push_toArray, List.append_toArray, List.nil_append, List.cons_append]
  refine wpIn_wide.2 ?_
  have hA0 : At ((w.alloc (.cells #[.int .i64 kk] 3)).alloc (.cells #[.bool false] 4)) w.heap.size #[.int .i64 kk] 3 := (At.new w _ _).alloc _
  have hA1 : At ((w.alloc (.cells #[.int .i64 kk] 3)).alloc (.cells #[.bool false] 4)) (w.heap.size + 1) #[.bool false] 4 := by
    have := At.new (w.alloc (.cells #[.int .i64 kk] 3)) #[.bool false] 4
    simpa using this
  have hB0 : Below w.heap.size w ((w.alloc (.cells #[.int .i64 kk] 3)).alloc (.cells #[.bool false] 4)) := by repeat (first | with_reducible exact Below.refl _ _ | with_reducible refine Below.setCell ?_ (by first | (simp; done) | (simp; omega)) _ | with_reducible refine below_drewN ?_ _ | with_reducible refine Below.alloc ?_ (by first | (simp; done) | (simp; omega)) _ | with_reducible refine Below.drew ?_)
  have hz0 : ((w.alloc (.cells #[.int .i64 kk] 3)).alloc (.cells #[.bool false] 4)).heap.size = w.heap.size + 2 := by simp
  have hA0' := hid hA0
  have hA1' := hid hA1
  have hB0' := hid hB0
  clear hA0 hA1 hB0
  go_wp2_with fail
  refine Calls.mono (refTexts_calls s hs N hN _) ?_
  rintro e V ⟨ao, cap, rfl, hL, hb1⟩
  have hA0 := hA0'.out.keptAll hb1
  have hA1 := hA1'.out.keptAll hb1
  have hBV := hB0'.out.trans (hb1.mono hB0'.out.size)
  have hzV : w.heap.size + 2 ≤ V.heap.size := by have := hb1.size; omega
  have hL' := hid hL
  clear hb1 hL hz0 hA0' hA1' hB0'
  have hA0' := hid (hA0.alloc (.cells #[.slice ao N cap] 30))
  have hA1' := hid (hA1.alloc (.cells #[.slice ao N cap] 30))
  have hB1' := hid (hBV.alloc hBV.size (.cells #[.slice ao N cap] 30))
  have hV1' := hid ((Below.refl V.heap.size V).alloc (Nat.le_refl _) (.cells #[.slice ao N cap] 30))
  have hl1' := hid (At.new V #[.slice ao N cap] 30)
  clear hA0 hA1 hBV
  go_wp2_with fail
  refine Calls.mono (textsQ_calls s (by omega) _ (hT'.out.below hB1'.out hw0) (by simp)) ?_
  rintro e X ⟨bm, bs, g, hbm, hbs, hgg, rfl, hX, hb2⟩
  simp only [World.size_alloc] at hbm hbs hgg
  obtain ⟨b5, hb5⟩ : ∃ b5, V.heap.size = b5 := ⟨_, rfl⟩
  have l1 := hX.1.lt
  have l2 := hX.2.1.lt
  have l3 := hX.2.2.lt
  have hS2 : TeS w V s kk ao N cap bm bs g b5 X.heap.size (X.alloc (.cells #[.func (.func 37) #[] #[.pointer (some ⟨bm, 0, none⟩), .pointer (some ⟨bs, 0, none⟩)]] 33)) :=
    ⟨(hA0'.out.keptAll hb2).alloc _, (hA1'.out.keptAll hb2).alloc _, by rw [← hb5]; exact (hl1'.out.keptAll hb2).alloc _, At.new X _ _, ⟨hX.1.alloc _, hX.2.1.alloc _, hX.2.2.alloc _⟩, (hV1'.out.trans (hb2.mono hV1'.out.size)).alloc (by have := (hV1'.out.trans (hb2.mono hV1'.out.size)).size; omega) _, (hB1'.out.trans (hb2.mono hB1'.out.size)).alloc (by have := (hB1'.out.trans (hb2.mono hB1'.out.size)).size; omega) _⟩
  obtain ⟨b6, hb6⟩ : ∃ b6, X.heap.size = b6 := ⟨_, rfl⟩
  have hS2' := hid hS2
  rw [hb6] at hS2' l1 l2 l3
  have hzX : b5 < b6 := by have := hb2.size; simp at this; omega
  clear hA0' hA1' hB1' hV1' hl1' hX hb2 hS2
  go_wp2_with fail
  (try rw [hb5])
  (try rw [hb6])
  refine Calls.mono (awake7_calls _ (hT'.out.below hS2'.out.bw hw0) (by simp)) ?_
  rintro e Y ⟨rfl, hb3⟩
  have hS3 := hS2'.out.kept hb3
  have hzY : b6 < Y.heap.size := hS3.seq.lt
  have hS4 := hS3.kept ((Below.refl Y.heap.size Y).alloc (Nat.le_refl _) (.cells #[.int .i64 0] 3))
  have hn4 := At.new Y #[.int .i64 0] 3
  have hS4' := hid hS4
  have hn4' := hid hn4
  have c6 := hS4.seq.cell 0
  simp only [List.getElem?_toArray, List.getElem?_cons_zero] at c6
  clear hS2' hb3 hS3 hS4 hn4 hb5 hb6
  go_wp2_with fail
  obtain ⟨W7, hW7⟩ : ∃ W7, Y.alloc (.cells #[.int .i64 0] 3) = W7 := ⟨_, rfl⟩
  obtain ⟨b7, hb7⟩ : ∃ b7, Y.heap.size = b7 := ⟨_, rfl⟩
  rw [hW7] at hS4' hn4' c6 ⊢
  rw [hb7] at hn4' hzY ⊢
  have hz7 : b7 < W7.heap.size := hn4'.out.lt
  clear hW7 hb7 c6
  have hI0 : TeS w V s kk ao N cap bm bs g b5 b6 W7 ∧ At W7 b7 #[.int .i64 ((0 : Nat) : Int)] 3 := ⟨hS4'.out, hn4'.out⟩
  have hB7 := hS4'.out.bw
  have hVz := hS4'.out.bV.size
  rename_i K hKr
  have rest : ∀ (D : Nat) (W : World) (m : Int), b7 < D → TeS w V s kk ao N cap bm bs g b5 b6 W → At W b7 #[.int .i64 m] 3 → (m = kk ∨ m = (N : Int)) → W.heap[D]? = some (.deferred (some [])) → K { tmps := #[.string s, .int .i64 kk, undef, .pointer (some ⟨w.heap.size, 0, none⟩), .pointer (some ⟨w.heap.size + 1, 0, none⟩), .pointer (some ⟨b5, 0, none⟩), .pointer (some ⟨b6, 0, none⟩), .pointer (some ⟨b7, 0, none⟩), undef, undef, .string s, .slice ao N cap, .string s, .func (.func 37) #[] #[.pointer (some ⟨bm, 0, none⟩), .pointer (some ⟨bs, 0, none⟩)], .func (.func 37) #[] #[.pointer (some ⟨bm, 0, none⟩), .pointer (some ⟨bs, 0, none⟩)], .bool false, .bool false, .bool true, .bool false, .bool false, .func (.func 37) #[] #[.pointer (some ⟨bm, 0, none⟩), .pointer (some ⟨bs, 0, none⟩)], undef, undef, undef, undef, undef, undef, undef, undef, undef, undef, undef, undef, undef, undef, undef, undef, undef, undef, undef, undef, undef, undef, undef, undef, undef, undef, undef, undef, undef, undef, undef, undef, undef, undef, undef, undef, undef, undef, undef, undef, undef, undef, undef, undef, undef, undef, undef, undef, undef, undef, undef, undef, undef, undef, undef, undef, undef, undef, undef, undef, undef, undef, undef], defers := [{ target := .collected D, args := #[] }] } W := by
    intro D W m hD hS hn hm hK
    refine hKr _ _ ?_
    clear hKr
    have c1 := hS.k.cell 0
    have c5 := hS.lst.cell 0
    have c6 := hS.seq.cell 0
    have c8 := hn.cell 0
    simp only [List.getElem?_toArray, List.getElem?_cons_zero] at c1 c5 c6 c8
    have hS' := hid hS
    have hn' := hid hn
    clear hS hn
    by_cases hmk : m = kk
    · subst hmk
      have emk : (m != m) = false := by simp
      clear hm
      go_wp2_with fail
      refine Calls.mono (told7_calls s (by omega) bm bs g N cap ao W hN hS'.out.tx (hT'.out.below hS'.out.bw hw0) (Nat.lt_of_lt_of_le hw0 hS'.out.bw.size) (hL'.out.kept rfl hS'.out.bV)) ?_
      rintro e Wt ⟨rfl, hbt⟩
      have hSt := hS'.out.kept hbt
      have hnt := hn'.out.keptAll hbt
      have hzD : D < W.heap.size := (Array.getElem?_eq_some_iff.1 hK).1
      have hKt := (hbt.block D hzD).trans hK
      have f7 := hnt.frozen 0
      have c7 := hnt.cell 0
      have hS8 := hSt.other (p := ⟨b7, 0, none⟩) (by show b5 < b7; omega) (by show b6 < b7; omega) (by show bm < b7; omega) (by show bs < b7; omega) (by show g < b7; omega) (by show w.heap.size + 1 < b7; omega) (by show V.heap.size ≤ b7; omega) (.int .i64 0)
      have hn8 : At (Wt.setCell ⟨b7, 0, none⟩ (.int .i64 0)) b7 #[.int .i64 ((0 : Nat) : Int)] 3 := hnt.set 0 _
      have hK8 : (Wt.setCell ⟨b7, 0, none⟩ (.int .i64 0)).heap[D]? = some (.deferred (some [])) := (Below.heap_setCell Wt ⟨b7, 0, none⟩ _ D (by show D ≠ b7; omega)).trans hKt
      have c6' := hS8.seq.cell 0
      simp only [List.getElem?_toArray, List.getElem?_cons_zero] at c6' c7
      have hS8' := hid hS8
      have hn8' := hid hn8
      have hz8 : D < (Wt.setCell ⟨b7, 0, none⟩ (.int .i64 0)).heap.size := (Array.getElem?_eq_some_iff.1 hK8).1
      clear hS' hn' hbt hSt hnt hKt hS8 hn8 c1 c5 c6 c8 hK hzD
      obtain ⟨W8, hW8⟩ : ∃ W8, Wt.setCell ⟨b7, 0, none⟩ (.int .i64 0) = W8 := ⟨_, rfl⟩
      rw [hW8] at hS8' hn8' hK8 hz8 c6'
      go_wp2_with fail
      (try rw [hW8])
      clear hW8 c6' c7 f7
      have hB8 := hS8'.out.bw
      have hV8 := hS8'.out.bV.size
      have hb78 : b7 < W8.heap.size := hn8'.out.lt
      refine (wpIn_wide (n := 3)).1 ?_
      refine range_tell (n := 3) (by decide) (gf := 37) (lb := #[.pointer (some ⟨bm, 0, none⟩), .pointer (some ⟨bs, 0, none⟩)]) rfl (enters_of Tryd.func37 (by kernel_rfl) rfl)
        (texts_tell (3 - 1) bm bs g s (by omega) W8 hS8'.out.tx (hT'.out.below hB8 hw0) (by omega)) (Below.refl _ _) (fun _ => rfl) KeepT.trans (keepT_l (w := W8) (by omega))
        (fun r Z => (TeS w V s m ao N cap bm bs g b5 b6 Z ∧ At Z b7 #[.int .i64 (r : Int)] 3) ∧ Z.heap[D]? = some (.deferred (some []))) (fun _ _ _ => False)
        (fun r X Z row h hg hr => ⟨⟨h.1.1.own hB8.size hV8 hg hr, h.1.2.own hg (fun r e => (hr r e).2)⟩, (hg.block D (by have := (Array.getElem?_eq_some_iff.1 h.2).1; omega) (fun e => by have := (hr D e.symm).1; omega)).trans h.2⟩) (fun _ _ _ _ _ h _ _ => h) ⟨⟨hS8'.out, hn8'.out⟩, hK8⟩ (TeA2 w s m ao N cap bm bs b5 b6 b7 (.int .i64 m) (.int .i64 m) (.bool false) (.bool false) (undef) (undef) (undef) (undef) (.bool false) (.bool false) (.func (.func 37) #[] #[.pointer (some ⟨bm, 0, none⟩), .pointer (some ⟨bs, 0, none⟩)]) (.slice ao N cap) (.bool true) (.bool false) (.bool false)) (fun x a' => teA2_own x a') ?assign ?body ?done ?stop
      case assign =>
        intro l x W' KK hx hI hKK
        obtain ⟨⟨A, C⟩, hAC⟩ : ∃ y, Hid (spn s x = y) := ⟨_, rfl⟩
        rw [encT, hAC.out]
        have hb : Below W'.heap.size W' (W'.alloc (.cells #[.int .i64 (A : Int), .int .i64 (C : Int)] 36)) := by repeat (first | with_reducible exact Below.refl _ _ | with_reducible refine Below.setCell ?_ (by first | (simp; done) | (simp; omega)) _ | with_reducible refine below_drewN ?_ _ | with_reducible refine Below.alloc ?_ (by first | (simp; done) | (simp; omega)) _ | with_reducible refine Below.drew ?_)
        have hK2 := fun a' => hKK a' _ ((keeps_below hb).from _) (KeepT.of_below hb) ⟨⟨hI.1.1.kept hb, hI.1.2.keptAll hb⟩, (hb.block D (Array.getElem?_eq_some_iff.1 hI.2).1).trans hI.2⟩
        have hgt : b7 < W'.heap.size := hI.1.2.lt
        clear hKK hI hb
        gi_wp2
        exact ⟨W'.heap.size, A, C, hAC, hgt, At.new W' _ _, rfl⟩
      case body =>
        rintro l r a' Wr hll ⟨rec, hrec⟩ hlt ⟨⟨hS, hn⟩, hKr'⟩ ⟨gx, A, C, hAC, hgx, hAt, rfl⟩
        rw [hN.out] at hlt
        have hT2 := spn_at hN.out hlt
        rw [hAC.out] at hT2
        obtain ⟨gl, rfl, hgl, cgV, chV⟩ := hL'.out _ _ _ hT2
        have hli : (r : Int) < (N : Int) := by omega
        have hge : decide ((N : Int) ≤ (r : Int)) = false := by simp; omega
        have hge' : (decide (N ≤ r)) = false := by simp; omega
        have hkeep : Hid (∀ W' : World, Below Wr.heap.size Wr W' → (W'.cell? ⟨b5, 0, none⟩ = some (.slice (some ⟨gl, 0, none⟩) N cap) ∧ W'.cell? ⟨b7, 0, none⟩ = some (.int .i64 (r : Int)) ∧ W'.cell? ⟨gx, 0, none⟩ = some (.int .i64 (A : Int)) ∧ W'.cell? ⟨gx, 1, none⟩ = some (.int .i64 (C : Int)) ∧ W'.cell? ⟨gl, r * 2, none⟩ = some (.int .i64 (A : Int)) ∧ W'.cell? ⟨gl, r * 2 + 1, none⟩ = some (.int .i64 (C : Int)) ∧ W'.cell? ⟨b6, 0, none⟩ = some (.func (.func 37) #[] #[.pointer (some ⟨bm, 0, none⟩), .pointer (some ⟨bs, 0, none⟩)])) ∧ (TeS w V s m (some ⟨gl, 0, none⟩) N cap bm bs g b5 b6 W' ∧ Below Wr.heap.size Wr W')) := fun W' hb => by
          have hSz := hS.kept hb
          exact ⟨⟨hSz.lst.cell 0, (hn.keptAll hb).cell 0, (hAt.keptAll hb).cell 0, (hAt.keptAll hb).cell 1, (hSz.bV.cell (p := ⟨gl, r * 2, none⟩) hgl).trans cgV, (hSz.bV.cell (p := ⟨gl, r * 2 + 1, none⟩) hgl).trans chV, hSz.seq.cell 0⟩, hSz, hb⟩
        have hS0 := hkeep.out Wr.drew (Below.refl _ _).drew
        have hS' := hid hS
        have hn' := hid hn
        have hKr2 := hid hKr'
        have fin : Hid (∀ W' : World, Below Wr.heap.size Wr W' → KeepsFrom W8.heap.size Wr (W'.setCell ⟨b7, 0, none⟩ (.int .i64 ((r : Int) + 1))) ∧ KeepT s bm bs g Wr (W'.setCell ⟨b7, 0, none⟩ (.int .i64 ((r : Int) + 1))) ∧ (TeS w V s m (some ⟨gl, 0, none⟩) N cap bm bs g b5 b6 (W'.setCell ⟨b7, 0, none⟩ (.int .i64 ((r : Int) + 1))) ∧ At (W'.setCell ⟨b7, 0, none⟩ (.int .i64 ((r : Int) + 1))) b7 #[.int .i64 ((r + 1 : Nat) : Int)] 3) ∧ (W'.setCell ⟨b7, 0, none⟩ (.int .i64 ((r : Int) + 1))).heap[D]? = some (.deferred (some []))) := fun W' hb =>
          ⟨((keeps_below hb).trans (KeepsOthers.setCell _ _ _)).from _, (KeepT.of_below hb).trans (KeepT.setCell (p := ⟨b7, 0, none⟩) (by show bs ≠ b7; omega) (by show bm ≠ b7; omega) (by show g ≠ b7; omega) (by show 0 < b7; omega) _),
            ⟨(hS'.out.kept hb).other (p := ⟨b7, 0, none⟩) (by show b5 < b7; omega) (by show b6 < b7; omega) (by show bm < b7; omega) (by show bs < b7; omega) (by show g < b7; omega) (by show w.heap.size + 1 < b7; omega) (by show V.heap.size ≤ b7; omega) _, (hn'.out.keptAll hb).set 0 _⟩,
            (Below.heap_setCell W' ⟨b7, 0, none⟩ _ D (by show D ≠ b7; omega)).trans ((hb.block D (Array.getElem?_eq_some_iff.1 hKr2.out).1).trans hKr2.out)⟩
        have cn : Hid (∀ W' : World, Below Wr.heap.size Wr W' → W'.cell? ⟨b7, 0, none⟩ = some (.int .i64 (r : Int)) ∧ W'.frozen? ⟨b7, 0, none⟩ = false) := fun W' hb => ⟨(hn'.out.keptAll hb).cell 0, (hn'.out.keptAll hb).frozen 0⟩
        clear hAC hAt hS hn hT2 cgV chV hKr'
        by_cases h3 : r < 3
        · have h3i : (r : Int) < 3 := by omega
          have h3d : decide (r < 3) = true := by simpa using h3
          have h3e : decide ((r : Int) < 3) = true := by simpa using h3i
          gi_wp2_with fail
          refine wpIn_region_round (S := fun W' => (W'.cell? ⟨b5, 0, none⟩ = some (.slice (some ⟨gl, 0, none⟩) N cap) ∧ W'.cell? ⟨b7, 0, none⟩ = some (.int .i64 (r : Int)) ∧ W'.cell? ⟨gx, 0, none⟩ = some (.int .i64 (A : Int)) ∧ W'.cell? ⟨gx, 1, none⟩ = some (.int .i64 (C : Int)) ∧ W'.cell? ⟨gl, r * 2, none⟩ = some (.int .i64 (A : Int)) ∧ W'.cell? ⟨gl, r * 2 + 1, none⟩ = some (.int .i64 (C : Int)) ∧ W'.cell? ⟨b6, 0, none⟩ = some (.func (.func 37) #[] #[.pointer (some ⟨bm, 0, none⟩), .pointer (some ⟨bs, 0, none⟩)])) ∧ (TeS w V s m (some ⟨gl, 0, none⟩) N cap bm bs g b5 b6 W' ∧ Below Wr.heap.size Wr W')) (by kernel_rfl) (by kernel_rfl) (fun _ _ h => h) hS0 (fun hHeld => ?_)
          (refine' wpAnyH_take (i := 0) rfl (by kernel_rfl) (by kernel_rfl) (by kernel_rfl) (fun _ _ _ h => h) (Or.inl ⟨by rfl, ?_⟩) (by assumption) ?_; rotate_left; (· (intro wq hq; (try dsimp only at hq); go_simp; first | done | with_reducible rfl)); simp only [Act.put, List.getElem_toArray, List.getElem_cons_zero, List.setIfInBounds_toArray, List.set_cons_zero, List.set_cons_succ])
          (refine' wpAnyH_take (i := 1) rfl (by kernel_rfl) (by kernel_rfl) (by kernel_rfl) (fun _ _ _ h => h) (Or.inl ⟨by rfl, ?_⟩) (by assumption) ?_; rotate_left; (· (intro wq hq; (try dsimp only at hq); go_simp; first | done | with_reducible rfl)); simp only [Act.put, List.getElem_toArray, List.getElem_cons_zero, List.getElem_cons_succ, List.setIfInBounds_toArray, List.set_cons_zero, List.set_cons_succ])
          (refine' wpAnyH_take (i := 2) rfl (by kernel_rfl) (by kernel_rfl) (by kernel_rfl) (fun _ _ _ h => h) (Or.inl ⟨by rfl, ?_⟩) (by assumption) ?_; rotate_left; (· (intro wq hq; (try dsimp only at hq); go_simp; first | done | with_reducible rfl)); simp only [Act.put, List.getElem_toArray, List.getElem_cons_zero, List.getElem_cons_succ, List.setIfInBounds_toArray, List.set_cons_zero, List.set_cons_succ])
          (refine' wpAnyH_take (i := 3) rfl (by kernel_rfl) (by kernel_rfl) (by kernel_rfl) (fun _ _ _ h => h) (Or.inl ⟨by rfl, ?_⟩) (by assumption) ?_; rotate_left; (· (intro wq hq; (try dsimp only at hq); go_simp; first | done | with_reducible rfl)); simp only [Act.put, List.getElem_toArray, List.getElem_cons_zero, List.getElem_cons_succ, List.setIfInBounds_toArray, List.set_cons_zero, List.set_cons_succ])
          (refine' wpAnyH_take (i := 4) rfl (by kernel_rfl) (by kernel_rfl) (by kernel_rfl) (fun _ _ _ h => h) (Or.inl ⟨by rfl, ?_⟩) (by assumption) ?_; rotate_left; (· (intro wq hq; (try dsimp only at hq); go_simp; first | done | with_reducible rfl)); simp only [Act.put, List.getElem_toArray, List.getElem_cons_zero, List.getElem_cons_succ, List.setIfInBounds_toArray, List.set_cons_zero, List.set_cons_succ])
          refine wpAnyH_ready (rs := [5]) (by kernel_rfl) (by simp) ?_
          refine AllReadyH.cons rfl (fun K hK => ?_) ?_
          · rw [if_pos (by rfl)]
            go_simp
            refine (told7_calls s (by omega) bm bs g N cap (some ⟨gl, 0, none⟩) _ hN hHeld.2.1.tx (hT'.out.below hHeld.2.1.bw hw0) (Nat.lt_of_lt_of_le hw0 hHeld.2.1.bw.size) (hL'.out.kept rfl hHeld.2.1.bV)).mono ?_
            rintro e wq ⟨rfl, hbq⟩
            have hb1 : Below Wr.heap.size Wr wq := (Below.refl _ Wr).drew.trans hbq
            refine hK.out _ _ (hkeep.out _ hb1) (fun hH => ?_)
            clear hK K
            (refine' wpAnyH_take (i := 6) rfl (by kernel_rfl) (by kernel_rfl) (by kernel_rfl) (fun _ _ _ h => h) (Or.inl ⟨by rfl, ?_⟩) (by assumption) ?_; rotate_left; (· (intro wq hq; (try dsimp only at hq); go_simp; first | done | with_reducible rfl)); simp only [Act.put, List.getElem_toArray, List.getElem_cons_zero, List.getElem_cons_succ, List.setIfInBounds_toArray, List.set_cons_zero, List.set_cons_succ])
            (refine' wpAnyH_take (i := 7) rfl (by kernel_rfl) (by kernel_rfl) (by kernel_rfl) (fun _ _ _ h => h) (Or.inl ⟨by rfl, ?_⟩) (by assumption) ?_; rotate_left; (· (intro wq hq; (try dsimp only at hq); go_simp; first | done | with_reducible rfl)); simp only [Act.put, List.getElem_toArray, List.getElem_cons_zero, List.getElem_cons_succ, List.setIfInBounds_toArray, List.set_cons_zero, List.set_cons_succ])
            (refine' wpAnyH_take (i := 8) rfl (by kernel_rfl) (by kernel_rfl) (by kernel_rfl) (fun _ _ _ h => h) (Or.inl ⟨by rfl, ?_⟩) (by assumption) ?_; rotate_left; (· (intro wq hq; (try dsimp only at hq); go_simp; first | done | with_reducible rfl)); simp only [Act.put, List.getElem_toArray, List.getElem_cons_zero, List.getElem_cons_succ, List.setIfInBounds_toArray, List.set_cons_zero, List.set_cons_succ])
            (refine' wpAnyH_take (i := 9) rfl (by kernel_rfl) (by kernel_rfl) (by kernel_rfl) (fun _ _ _ h => h) (Or.inl ⟨by rfl, ?_⟩) (by assumption) ?_; rotate_left; (· (intro wq hq; (try dsimp only at hq); go_simp; first | done | with_reducible rfl)); simp only [Act.put, List.getElem_toArray, List.getElem_cons_zero, List.getElem_cons_succ, List.setIfInBounds_toArray, List.set_cons_zero, List.set_cons_succ])
            (refine' wpAnyH_take (i := 10) rfl (by kernel_rfl) (by kernel_rfl) (by kernel_rfl) (fun _ _ _ h => h) (Or.inl ⟨by rfl, ?_⟩) (by assumption) ?_; rotate_left; (· (intro wq hq; (try dsimp only at hq); go_simp; first | done | with_reducible rfl)); simp only [Act.put, List.getElem_toArray, List.getElem_cons_zero, List.getElem_cons_succ, List.setIfInBounds_toArray, List.set_cons_zero, List.set_cons_succ])
            (refine' wpAnyH_take (i := 11) rfl (by kernel_rfl) (by kernel_rfl) (by kernel_rfl) (fun _ _ _ h => h) (Or.inl ⟨by rfl, ?_⟩) (by assumption) ?_; rotate_left; (· (intro wq hq; (try dsimp only at hq); go_simp; first | done | with_reducible rfl)); simp only [Act.put, List.getElem_toArray, List.getElem_cons_zero, List.getElem_cons_succ, List.setIfInBounds_toArray, List.set_cons_zero, List.set_cons_succ])
            (refine' wpAnyH_take (i := 12) rfl (by kernel_rfl) (by kernel_rfl) (by kernel_rfl) (fun _ _ _ h => h) (Or.inl ⟨by rfl, ?_⟩) (by assumption) ?_; rotate_left; (· (intro wq hq; (try dsimp only at hq); go_simp; first | done | with_reducible rfl)); simp only [Act.put, List.getElem_toArray, List.getElem_cons_zero, List.getElem_cons_succ, List.setIfInBounds_toArray, List.set_cons_zero, List.set_cons_succ])
            (refine' wpAnyH_take (i := 13) rfl (by kernel_rfl) (by kernel_rfl) (by kernel_rfl) (fun _ _ _ h => h) (Or.inl ⟨by rfl, ?_⟩) (by assumption) ?_; rotate_left; (· (intro wq hq; (try dsimp only at hq); go_simp; first | done | with_reducible rfl)); simp only [Act.put, List.getElem_toArray, List.getElem_cons_zero, List.getElem_cons_succ, List.setIfInBounds_toArray, List.set_cons_zero, List.set_cons_succ])
            (refine' wpAnyH_take (i := 14) rfl (by kernel_rfl) (by kernel_rfl) (by kernel_rfl) (fun _ _ _ h => h) (Or.inl ⟨by rfl, ?_⟩) (by assumption) ?_; rotate_left; (· (intro wq hq; (try dsimp only at hq); go_simp; first | done | with_reducible rfl)); simp only [Act.put, List.getElem_toArray, List.getElem_cons_zero, List.getElem_cons_succ, List.setIfInBounds_toArray, List.set_cons_zero, List.set_cons_succ])
            (refine' wpAnyH_take (i := 15) rfl (by kernel_rfl) (by kernel_rfl) (by kernel_rfl) (fun _ _ _ h => h) (Or.inl ⟨by rfl, ?_⟩) (by assumption) ?_; rotate_left; (· (intro wq hq; (try dsimp only at hq); go_simp; first | done | with_reducible rfl)); simp only [Act.put, List.getElem_toArray, List.getElem_cons_zero, List.getElem_cons_succ, List.setIfInBounds_toArray, List.set_cons_zero, List.set_cons_succ])
            (refine' wpAnyH_take (i := 16) rfl (by kernel_rfl) (by kernel_rfl) (by kernel_rfl) (fun _ _ _ h => h) (Or.inl ⟨by rfl, ?_⟩) (by assumption) ?_; rotate_left; (· (intro wq hq; (try dsimp only at hq); go_simp; first | done | with_reducible rfl)); simp only [Act.put, List.getElem_toArray, List.getElem_cons_zero, List.getElem_cons_succ, List.setIfInBounds_toArray, List.set_cons_zero, List.set_cons_succ])
            (refine' wpAnyH_take (i := 17) rfl (by kernel_rfl) (by kernel_rfl) (by kernel_rfl) (fun _ _ _ h => h) (Or.inl ⟨by rfl, ?_⟩) (by assumption) ?_; rotate_left; (· (intro wq hq; (try dsimp only at hq); go_simp; first | done | with_reducible rfl)); simp only [Act.put, List.getElem_toArray, List.getElem_cons_zero, List.getElem_cons_succ, List.setIfInBounds_toArray, List.set_cons_zero, List.set_cons_succ])
            (refine' wpAnyH_take (i := 18) rfl (by kernel_rfl) (by kernel_rfl) (by kernel_rfl) (fun _ _ _ h => h) (Or.inl ⟨by rfl, ?_⟩) (by assumption) ?_; rotate_left; (· (intro wq hq; (try dsimp only at hq); go_simp; first | done | with_reducible rfl)); simp only [Act.put, List.getElem_toArray, List.getElem_cons_zero, List.getElem_cons_succ, List.setIfInBounds_toArray, List.set_cons_zero, List.set_cons_succ])
            (refine' wpAnyH_take (i := 19) rfl (by kernel_rfl) (by kernel_rfl) (by kernel_rfl) (fun _ _ _ h => h) (Or.inl ⟨by rfl, ?_⟩) (by assumption) ?_; rotate_left; (· (intro wq hq; (try dsimp only at hq); go_simp; first | done | with_reducible rfl)); simp only [Act.put, List.getElem_toArray, List.getElem_cons_zero, List.getElem_cons_succ, List.setIfInBounds_toArray, List.set_cons_zero, List.set_cons_succ])
            (refine' wpAnyH_take (i := 20) rfl (by kernel_rfl) (by kernel_rfl) (by kernel_rfl) (fun _ _ _ h => h) (Or.inl ⟨by rfl, ?_⟩) (by assumption) ?_; rotate_left; (· (intro wq hq; (try dsimp only at hq); go_simp; first | done | with_reducible rfl)); simp only [Act.put, List.getElem_toArray, List.getElem_cons_zero, List.getElem_cons_succ, List.setIfInBounds_toArray, List.set_cons_zero, List.set_cons_succ])
            (refine' wpAnyH_take (i := 21) rfl (by kernel_rfl) (by kernel_rfl) (by kernel_rfl) (fun _ _ _ h => h) (Or.inl ⟨by rfl, ?_⟩) (by assumption) ?_; rotate_left; (· (intro wq hq; (try dsimp only at hq); go_simp; first | done | with_reducible rfl)); simp only [Act.put, List.getElem_toArray, List.getElem_cons_zero, List.getElem_cons_succ, List.setIfInBounds_toArray, List.set_cons_zero, List.set_cons_succ])
            refine wpAnyH_done (by kernel_rfl) ?_ _
            rename_i Kz hKz
            refine hKz _ _ ?_
            obtain ⟨k2, f2⟩ := cn.out wq hb1
            clear hKz Kz hHeld hS0 hge hge' hH hkeep cn
            gi_wp2
            exact fin.out _ hb1
          · exact AllReadyH.nil
        · have h3i : ¬ (r : Int) < 3 := by omega
          have h3d : decide (r < 3) = false := by simpa using h3
          have h3e : decide ((r : Int) < 3) = false := by simpa using h3i
          gi_wp2_with fail
          refine wpIn_region_round (S := fun W' => (W'.cell? ⟨b5, 0, none⟩ = some (.slice (some ⟨gl, 0, none⟩) N cap) ∧ W'.cell? ⟨b7, 0, none⟩ = some (.int .i64 (r : Int)) ∧ W'.cell? ⟨gx, 0, none⟩ = some (.int .i64 (A : Int)) ∧ W'.cell? ⟨gx, 1, none⟩ = some (.int .i64 (C : Int)) ∧ W'.cell? ⟨gl, r * 2, none⟩ = some (.int .i64 (A : Int)) ∧ W'.cell? ⟨gl, r * 2 + 1, none⟩ = some (.int .i64 (C : Int)) ∧ W'.cell? ⟨b6, 0, none⟩ = some (.func (.func 37) #[] #[.pointer (some ⟨bm, 0, none⟩), .pointer (some ⟨bs, 0, none⟩)])) ∧ (TeS w V s m (some ⟨gl, 0, none⟩) N cap bm bs g b5 b6 W' ∧ Below Wr.heap.size Wr W')) (by kernel_rfl) (by kernel_rfl) (fun _ _ h => h) hS0 (fun hHeld => ?_)
          (refine' wpAnyH_take (i := 0) rfl (by kernel_rfl) (by kernel_rfl) (by kernel_rfl) (fun _ _ _ h => h) (Or.inl ⟨by rfl, ?_⟩) (by assumption) ?_; rotate_left; (· (intro wq hq; (try dsimp only at hq); go_simp; first | done | with_reducible rfl)); simp only [Act.put, List.getElem_toArray, List.getElem_cons_zero, List.setIfInBounds_toArray, List.set_cons_zero, List.set_cons_succ])
          (refine' wpAnyH_take (i := 1) rfl (by kernel_rfl) (by kernel_rfl) (by kernel_rfl) (fun _ _ _ h => h) (Or.inl ⟨by rfl, ?_⟩) (by assumption) ?_; rotate_left; (· (intro wq hq; (try dsimp only at hq); go_simp; first | done | with_reducible rfl)); simp only [Act.put, List.getElem_toArray, List.getElem_cons_zero, List.getElem_cons_succ, List.setIfInBounds_toArray, List.set_cons_zero, List.set_cons_succ])
          (refine' wpAnyH_take (i := 2) rfl (by kernel_rfl) (by kernel_rfl) (by kernel_rfl) (fun _ _ _ h => h) (Or.inl ⟨by rfl, ?_⟩) (by assumption) ?_; rotate_left; (· (intro wq hq; (try dsimp only at hq); go_simp; first | done | with_reducible rfl)); simp only [Act.put, List.getElem_toArray, List.getElem_cons_zero, List.getElem_cons_succ, List.setIfInBounds_toArray, List.set_cons_zero, List.set_cons_succ])
          (refine wpAnyH_take (i := 3) (v := undef) rfl (by kernel_rfl) (by kernel_rfl) (by kernel_rfl) (fun _ _ _ h => h) (Or.inr ⟨by rfl, rfl⟩) (by assumption) ?_; simp only [Act.put, List.getElem_toArray, List.getElem_cons_zero, List.getElem_cons_succ, List.setIfInBounds_toArray, List.set_cons_zero, List.set_cons_succ])
          (refine wpAnyH_take (i := 4) (v := undef) rfl (by kernel_rfl) (by kernel_rfl) (by kernel_rfl) (fun _ _ _ h => h) (Or.inr ⟨by rfl, rfl⟩) (by assumption) ?_; simp only [Act.put, List.getElem_toArray, List.getElem_cons_zero, List.getElem_cons_succ, List.setIfInBounds_toArray, List.set_cons_zero, List.set_cons_succ])
          (refine wpAnyH_take (i := 5) (v := undef) rfl (by kernel_rfl) (by kernel_rfl) (by kernel_rfl) (fun _ _ _ h => h) (Or.inr ⟨by rfl, rfl⟩) (by assumption) ?_; simp only [Act.put, List.getElem_toArray, List.getElem_cons_zero, List.getElem_cons_succ, List.setIfInBounds_toArray, List.set_cons_zero, List.set_cons_succ])
          (refine wpAnyH_take (i := 6) (v := undef) rfl (by kernel_rfl) (by kernel_rfl) (by kernel_rfl) (fun _ _ _ h => h) (Or.inr ⟨by rfl, rfl⟩) (by assumption) ?_; simp only [Act.put, List.getElem_toArray, List.getElem_cons_zero, List.getElem_cons_succ, List.setIfInBounds_toArray, List.set_cons_zero, List.set_cons_succ])
          (refine' wpAnyH_take (i := 7) rfl (by kernel_rfl) (by kernel_rfl) (by kernel_rfl) (fun _ _ _ h => h) (Or.inl ⟨by rfl, ?_⟩) (by assumption) ?_; rotate_left; (· (intro wq hq; (try dsimp only at hq); go_simp; first | done | with_reducible rfl)); simp only [Act.put, List.getElem_toArray, List.getElem_cons_zero, List.getElem_cons_succ, List.setIfInBounds_toArray, List.set_cons_zero, List.set_cons_succ])
          (refine' wpAnyH_take (i := 8) rfl (by kernel_rfl) (by kernel_rfl) (by kernel_rfl) (fun _ _ _ h => h) (Or.inl ⟨by rfl, ?_⟩) (by assumption) ?_; rotate_left; (· (intro wq hq; (try dsimp only at hq); go_simp; first | done | with_reducible rfl)); simp only [Act.put, List.getElem_toArray, List.getElem_cons_zero, List.getElem_cons_succ, List.setIfInBounds_toArray, List.set_cons_zero, List.set_cons_succ])
          (refine' wpAnyH_take (i := 9) rfl (by kernel_rfl) (by kernel_rfl) (by kernel_rfl) (fun _ _ _ h => h) (Or.inl ⟨by rfl, ?_⟩) (by assumption) ?_; rotate_left; (· (intro wq hq; (try dsimp only at hq); go_simp; first | done | with_reducible rfl)); simp only [Act.put, List.getElem_toArray, List.getElem_cons_zero, List.getElem_cons_succ, List.setIfInBounds_toArray, List.set_cons_zero, List.set_cons_succ])
          (refine' wpAnyH_take (i := 10) rfl (by kernel_rfl) (by kernel_rfl) (by kernel_rfl) (fun _ _ _ h => h) (Or.inl ⟨by rfl, ?_⟩) (by assumption) ?_; rotate_left; (· (intro wq hq; (try dsimp only at hq); go_simp; first | done | with_reducible rfl)); simp only [Act.put, List.getElem_toArray, List.getElem_cons_zero, List.getElem_cons_succ, List.setIfInBounds_toArray, List.set_cons_zero, List.set_cons_succ])
          (refine' wpAnyH_take (i := 11) rfl (by kernel_rfl) (by kernel_rfl) (by kernel_rfl) (fun _ _ _ h => h) (Or.inl ⟨by rfl, ?_⟩) (by assumption) ?_; rotate_left; (· (intro wq hq; (try dsimp only at hq); go_simp; first | done | with_reducible rfl)); simp only [Act.put, List.getElem_toArray, List.getElem_cons_zero, List.getElem_cons_succ, List.setIfInBounds_toArray, List.set_cons_zero, List.set_cons_succ])
          (refine' wpAnyH_take (i := 12) rfl (by kernel_rfl) (by kernel_rfl) (by kernel_rfl) (fun _ _ _ h => h) (Or.inl ⟨by rfl, ?_⟩) (by assumption) ?_; rotate_left; (· (intro wq hq; (try dsimp only at hq); go_simp; first | done | with_reducible rfl)); simp only [Act.put, List.getElem_toArray, List.getElem_cons_zero, List.getElem_cons_succ, List.setIfInBounds_toArray, List.set_cons_zero, List.set_cons_succ])
          (refine' wpAnyH_take (i := 13) rfl (by kernel_rfl) (by kernel_rfl) (by kernel_rfl) (fun _ _ _ h => h) (Or.inl ⟨by rfl, ?_⟩) (by assumption) ?_; rotate_left; (· (intro wq hq; (try dsimp only at hq); go_simp; first | done | with_reducible rfl)); simp only [Act.put, List.getElem_toArray, List.getElem_cons_zero, List.getElem_cons_succ, List.setIfInBounds_toArray, List.set_cons_zero, List.set_cons_succ])
          (refine' wpAnyH_take (i := 14) rfl (by kernel_rfl) (by kernel_rfl) (by kernel_rfl) (fun _ _ _ h => h) (Or.inl ⟨by rfl, ?_⟩) (by assumption) ?_; rotate_left; (· (intro wq hq; (try dsimp only at hq); go_simp; first | done | with_reducible rfl)); simp only [Act.put, List.getElem_toArray, List.getElem_cons_zero, List.getElem_cons_succ, List.setIfInBounds_toArray, List.set_cons_zero, List.set_cons_succ])
          (refine' wpAnyH_take (i := 15) rfl (by kernel_rfl) (by kernel_rfl) (by kernel_rfl) (fun _ _ _ h => h) (Or.inl ⟨by rfl, ?_⟩) (by assumption) ?_; rotate_left; (· (intro wq hq; (try dsimp only at hq); go_simp; first | done | with_reducible rfl)); simp only [Act.put, List.getElem_toArray, List.getElem_cons_zero, List.getElem_cons_succ, List.setIfInBounds_toArray, List.set_cons_zero, List.set_cons_succ])
          (refine' wpAnyH_take (i := 16) rfl (by kernel_rfl) (by kernel_rfl) (by kernel_rfl) (fun _ _ _ h => h) (Or.inl ⟨by rfl, ?_⟩) (by assumption) ?_; rotate_left; (· (intro wq hq; (try dsimp only at hq); go_simp; first | done | with_reducible rfl)); simp only [Act.put, List.getElem_toArray, List.getElem_cons_zero, List.getElem_cons_succ, List.setIfInBounds_toArray, List.set_cons_zero, List.set_cons_succ])
          (refine' wpAnyH_take (i := 17) rfl (by kernel_rfl) (by kernel_rfl) (by kernel_rfl) (fun _ _ _ h => h) (Or.inl ⟨by rfl, ?_⟩) (by assumption) ?_; rotate_left; (· (intro wq hq; (try dsimp only at hq); go_simp; first | done | with_reducible rfl)); simp only [Act.put, List.getElem_toArray, List.getElem_cons_zero, List.getElem_cons_succ, List.setIfInBounds_toArray, List.set_cons_zero, List.set_cons_succ])
          (refine' wpAnyH_take (i := 18) rfl (by kernel_rfl) (by kernel_rfl) (by kernel_rfl) (fun _ _ _ h => h) (Or.inl ⟨by rfl, ?_⟩) (by assumption) ?_; rotate_left; (· (intro wq hq; (try dsimp only at hq); go_simp; first | done | with_reducible rfl)); simp only [Act.put, List.getElem_toArray, List.getElem_cons_zero, List.getElem_cons_succ, List.setIfInBounds_toArray, List.set_cons_zero, List.set_cons_succ])
          (refine' wpAnyH_take (i := 19) rfl (by kernel_rfl) (by kernel_rfl) (by kernel_rfl) (fun _ _ _ h => h) (Or.inl ⟨by rfl, ?_⟩) (by assumption) ?_; rotate_left; (· (intro wq hq; (try dsimp only at hq); go_simp; first | done | with_reducible rfl)); simp only [Act.put, List.getElem_toArray, List.getElem_cons_zero, List.getElem_cons_succ, List.setIfInBounds_toArray, List.set_cons_zero, List.set_cons_succ])
          (refine' wpAnyH_take (i := 20) rfl (by kernel_rfl) (by kernel_rfl) (by kernel_rfl) (fun _ _ _ h => h) (Or.inl ⟨by rfl, ?_⟩) (by assumption) ?_; rotate_left; (· (intro wq hq; (try dsimp only at hq); go_simp; first | done | with_reducible rfl)); simp only [Act.put, List.getElem_toArray, List.getElem_cons_zero, List.getElem_cons_succ, List.setIfInBounds_toArray, List.set_cons_zero, List.set_cons_succ])
          (refine' wpAnyH_take (i := 21) rfl (by kernel_rfl) (by kernel_rfl) (by kernel_rfl) (fun _ _ _ h => h) (Or.inl ⟨by rfl, ?_⟩) (by assumption) ?_; rotate_left; (· (intro wq hq; (try dsimp only at hq); go_simp; first | done | with_reducible rfl)); simp only [Act.put, List.getElem_toArray, List.getElem_cons_zero, List.getElem_cons_succ, List.setIfInBounds_toArray, List.set_cons_zero, List.set_cons_succ])
          refine wpAnyH_done (by kernel_rfl) ?_ _
          rename_i Kz hKz
          refine hKz _ _ ?_
          obtain ⟨k2, f2⟩ := cn.out Wr.drew (Below.refl _ _).drew
          clear hKz Kz hHeld hS0 hge hge' hkeep cn
          gi_wp2
          exact fin.out _ (Below.refl _ _).drew
      case done =>
        rintro D2 Wd hD2 ⟨⟨hS, hn⟩, hK1⟩ hK2
        rw [hN.out] at hn
        have q5 := hS.lst.cell 0
        have q7 := hn.cell 0
        have qr := hS.res.cell 0
        have fr := hS.res.frozen 0
        simp only [List.getElem?_toArray, List.getElem?_cons_zero] at q5 q7 qr
        have hBe := hS.bw.setCell (p := ⟨w.heap.size + 1, 0, none⟩) (by show w.heap.size ≤ w.heap.size + 1; omega) (.bool true)
        have k2 : (Wd.setCell ⟨w.heap.size + 1, 0, none⟩ (.bool true)).heap[D2]? = some (.deferred (some [])) := (Below.heap_setCell Wd ⟨w.heap.size + 1, 0, none⟩ _ D2 (by show D2 ≠ w.heap.size + 1; omega)).trans hK2
        have k1 : (Wd.setCell ⟨w.heap.size + 1, 0, none⟩ (.bool true)).heap[D]? = some (.deferred (some [])) := (Below.heap_setCell Wd ⟨w.heap.size + 1, 0, none⟩ _ D (by show D ≠ w.heap.size + 1; omega)).trans hK1
        have k1' : ((Wd.setCell ⟨w.heap.size + 1, 0, none⟩ (.bool true)).putObj D2 (.deferred none)).heap[D]? = some (.deferred (some [])) := (World.putObj_heap_other (by omega)).trans k1
        have cr := World.cell?_setCell_same' Wd ⟨w.heap.size + 1, 0, none⟩ (.bool true) (by rw [qr]; rfl)
        have cr2 := cell_kept cr (grownBy_putObj' _ D2 (.deferred none)) (fun r e => by cases e; exact ⟨_, k2, rfl⟩)
        have cr3 := cell_kept cr2 (grownBy_putObj' _ D (.deferred none)) (fun r e => by cases e; exact ⟨_, k1', rfl⟩)
        have hBe2 := hBe.trans (belowK_b (w := w) (Nat.le_refl _) _ D2 _ (.deferred none) (by omega) k2 rfl rfl)
        have hBe3 := hBe2.trans (belowK_b (w := w) (Nat.le_refl _) _ D _ (.deferred none) (by omega) k1' rfl rfl)
        have eNN : ((N : Int) == (N : Int)) = true := by simp
        rename_i Kz hKz
        refine hKz _ _ ?_
        clear hKz Kz
        go_wp2
        refine ⟨by simp, .inl ⟨_, _, rfl, run_takeDeferred k2, ?_⟩⟩
        refine ⟨by simp, .inl ⟨_, _, rfl, run_takeDeferred k1', ?_⟩⟩
        refine ⟨.bool true, ?_, rfl, hBe3⟩
        simp [results, Tryd.f5, go_sem, cr3]
      case stop =>
        rintro D2 c r W' _ _ h _
        exact h.elim
    · obtain rfl : m = (N : Int) := by rcases hm with h | h; exact absurd h hmk; exact h
      have emk : ((N : Int) != kk) = true := by simpa using hmk
      have eNN0 : ((N : Int) != (N : Int)) = false := by simp
      clear hm hmk
      go_wp2_with fail
      refine Calls.mono (told7_calls s (by omega) bm bs g N cap ao W hN hS'.out.tx (hT'.out.below hS'.out.bw hw0) (Nat.lt_of_lt_of_le hw0 hS'.out.bw.size) (hL'.out.kept rfl hS'.out.bV)) ?_
      rintro e Wt ⟨rfl, hbt⟩
      have hSt := hS'.out.kept hbt
      have hnt := hn'.out.keptAll hbt
      have hzD : D < W.heap.size := (Array.getElem?_eq_some_iff.1 hK).1
      have hKt := (hbt.block D hzD).trans hK
      have f7 := hnt.frozen 0
      have c7 := hnt.cell 0
      have hS8 := hSt.other (p := ⟨b7, 0, none⟩) (by show b5 < b7; omega) (by show b6 < b7; omega) (by show bm < b7; omega) (by show bs < b7; omega) (by show g < b7; omega) (by show w.heap.size + 1 < b7; omega) (by show V.heap.size ≤ b7; omega) (.int .i64 0)
      have hn8 : At (Wt.setCell ⟨b7, 0, none⟩ (.int .i64 0)) b7 #[.int .i64 ((0 : Nat) : Int)] 3 := hnt.set 0 _
      have hK8 : (Wt.setCell ⟨b7, 0, none⟩ (.int .i64 0)).heap[D]? = some (.deferred (some [])) := (Below.heap_setCell Wt ⟨b7, 0, none⟩ _ D (by show D ≠ b7; omega)).trans hKt
      have c6' := hS8.seq.cell 0
      simp only [List.getElem?_toArray, List.getElem?_cons_zero] at c6' c7
      have hS8' := hid hS8
      have hn8' := hid hn8
      have hz8 : D < (Wt.setCell ⟨b7, 0, none⟩ (.int .i64 0)).heap.size := (Array.getElem?_eq_some_iff.1 hK8).1
      clear hS' hn' hbt hSt hnt hKt hS8 hn8 c1 c5 c6 c8 hK hzD
      obtain ⟨W8, hW8⟩ : ∃ W8, Wt.setCell ⟨b7, 0, none⟩ (.int .i64 0) = W8 := ⟨_, rfl⟩
      rw [hW8] at hS8' hn8' hK8 hz8 c6'
      go_wp2_with fail
      (try rw [hW8])
      clear hW8 c6' c7 f7
      have hB8 := hS8'.out.bw
      have hV8 := hS8'.out.bV.size
      have hb78 : b7 < W8.heap.size := hn8'.out.lt
      refine (wpIn_wide (n := 3)).1 ?_
      refine range_tell (n := 3) (by decide) (gf := 37) (lb := #[.pointer (some ⟨bm, 0, none⟩), .pointer (some ⟨bs, 0, none⟩)]) rfl (enters_of Tryd.func37 (by kernel_rfl) rfl)
        (texts_tell (3 - 1) bm bs g s (by omega) W8 hS8'.out.tx (hT'.out.below hB8 hw0) (by omega)) (Below.refl _ _) (fun _ => rfl) KeepT.trans (keepT_l (w := W8) (by omega))
        (fun r Z => (TeS w V s kk ao N cap bm bs g b5 b6 Z ∧ At Z b7 #[.int .i64 (r : Int)] 3) ∧ Z.heap[D]? = some (.deferred (some []))) (fun _ _ _ => False)
        (fun r X Z row h hg hr => ⟨⟨h.1.1.own hB8.size hV8 hg hr, h.1.2.own hg (fun r e => (hr r e).2)⟩, (hg.block D (by have := (Array.getElem?_eq_some_iff.1 h.2).1; omega) (fun e => by have := (hr D e.symm).1; omega)).trans h.2⟩) (fun _ _ _ _ _ h _ _ => h) ⟨⟨hS8'.out, hn8'.out⟩, hK8⟩ (TeA2 w s kk ao N cap bm bs b5 b6 b7 (.int .i64 (N : Int)) (.int .i64 kk) (.bool true) (.bool true) (.int .i64 (N : Int)) (.slice ao N cap) (.int .i64 (N : Int)) (.bool false) (.bool false) (.bool false) (.func (.func 37) #[] #[.pointer (some ⟨bm, 0, none⟩), .pointer (some ⟨bs, 0, none⟩)]) (.slice ao N cap) (.bool true) (.bool false) (.bool false)) (fun x a' => teA2_own x a') ?assign ?body ?done ?stop
      case assign =>
        intro l x W' KK hx hI hKK
        obtain ⟨⟨A, C⟩, hAC⟩ : ∃ y, Hid (spn s x = y) := ⟨_, rfl⟩
        rw [encT, hAC.out]
        have hb : Below W'.heap.size W' (W'.alloc (.cells #[.int .i64 (A : Int), .int .i64 (C : Int)] 36)) := by repeat (first | with_reducible exact Below.refl _ _ | with_reducible refine Below.setCell ?_ (by first | (simp; done) | (simp; omega)) _ | with_reducible refine below_drewN ?_ _ | with_reducible refine Below.alloc ?_ (by first | (simp; done) | (simp; omega)) _ | with_reducible refine Below.drew ?_)
        have hK2 := fun a' => hKK a' _ ((keeps_below hb).from _) (KeepT.of_below hb) ⟨⟨hI.1.1.kept hb, hI.1.2.keptAll hb⟩, (hb.block D (Array.getElem?_eq_some_iff.1 hI.2).1).trans hI.2⟩
        have hgt : b7 < W'.heap.size := hI.1.2.lt
        clear hKK hI hb
        gi_wp2
        exact ⟨W'.heap.size, A, C, hAC, hgt, At.new W' _ _, rfl⟩
      case body =>
        rintro l r a' Wr hll ⟨rec, hrec⟩ hlt ⟨⟨hS, hn⟩, hKr'⟩ ⟨gx, A, C, hAC, hgx, hAt, rfl⟩
        rw [hN.out] at hlt
        have hT2 := spn_at hN.out hlt
        rw [hAC.out] at hT2
        obtain ⟨gl, rfl, hgl, cgV, chV⟩ := hL'.out _ _ _ hT2
        have hli : (r : Int) < (N : Int) := by omega
        have hge : decide ((N : Int) ≤ (r : Int)) = false := by simp; omega
        have hge' : (decide (N ≤ r)) = false := by simp; omega
        have hkeep : Hid (∀ W' : World, Below Wr.heap.size Wr W' → (W'.cell? ⟨b5, 0, none⟩ = some (.slice (some ⟨gl, 0, none⟩) N cap) ∧ W'.cell? ⟨b7, 0, none⟩ = some (.int .i64 (r : Int)) ∧ W'.cell? ⟨gx, 0, none⟩ = some (.int .i64 (A : Int)) ∧ W'.cell? ⟨gx, 1, none⟩ = some (.int .i64 (C : Int)) ∧ W'.cell? ⟨gl, r * 2, none⟩ = some (.int .i64 (A : Int)) ∧ W'.cell? ⟨gl, r * 2 + 1, none⟩ = some (.int .i64 (C : Int)) ∧ W'.cell? ⟨b6, 0, none⟩ = some (.func (.func 37) #[] #[.pointer (some ⟨bm, 0, none⟩), .pointer (some ⟨bs, 0, none⟩)])) ∧ (TeS w V s kk (some ⟨gl, 0, none⟩) N cap bm bs g b5 b6 W' ∧ Below Wr.heap.size Wr W')) := fun W' hb => by
          have hSz := hS.kept hb
          exact ⟨⟨hSz.lst.cell 0, (hn.keptAll hb).cell 0, (hAt.keptAll hb).cell 0, (hAt.keptAll hb).cell 1, (hSz.bV.cell (p := ⟨gl, r * 2, none⟩) hgl).trans cgV, (hSz.bV.cell (p := ⟨gl, r * 2 + 1, none⟩) hgl).trans chV, hSz.seq.cell 0⟩, hSz, hb⟩
        have hS0 := hkeep.out Wr.drew (Below.refl _ _).drew
        have hS' := hid hS
        have hn' := hid hn
        have hKr2 := hid hKr'
        have fin : Hid (∀ W' : World, Below Wr.heap.size Wr W' → KeepsFrom W8.heap.size Wr (W'.setCell ⟨b7, 0, none⟩ (.int .i64 ((r : Int) + 1))) ∧ KeepT s bm bs g Wr (W'.setCell ⟨b7, 0, none⟩ (.int .i64 ((r : Int) + 1))) ∧ (TeS w V s kk (some ⟨gl, 0, none⟩) N cap bm bs g b5 b6 (W'.setCell ⟨b7, 0, none⟩ (.int .i64 ((r : Int) + 1))) ∧ At (W'.setCell ⟨b7, 0, none⟩ (.int .i64 ((r : Int) + 1))) b7 #[.int .i64 ((r + 1 : Nat) : Int)] 3) ∧ (W'.setCell ⟨b7, 0, none⟩ (.int .i64 ((r : Int) + 1))).heap[D]? = some (.deferred (some []))) := fun W' hb =>
          ⟨((keeps_below hb).trans (KeepsOthers.setCell _ _ _)).from _, (KeepT.of_below hb).trans (KeepT.setCell (p := ⟨b7, 0, none⟩) (by show bs ≠ b7; omega) (by show bm ≠ b7; omega) (by show g ≠ b7; omega) (by show 0 < b7; omega) _),
            ⟨(hS'.out.kept hb).other (p := ⟨b7, 0, none⟩) (by show b5 < b7; omega) (by show b6 < b7; omega) (by show bm < b7; omega) (by show bs < b7; omega) (by show g < b7; omega) (by show w.heap.size + 1 < b7; omega) (by show V.heap.size ≤ b7; omega) _, (hn'.out.keptAll hb).set 0 _⟩,
            (Below.heap_setCell W' ⟨b7, 0, none⟩ _ D (by show D ≠ b7; omega)).trans ((hb.block D (Array.getElem?_eq_some_iff.1 hKr2.out).1).trans hKr2.out)⟩
        have cn : Hid (∀ W' : World, Below Wr.heap.size Wr W' → W'.cell? ⟨b7, 0, none⟩ = some (.int .i64 (r : Int)) ∧ W'.frozen? ⟨b7, 0, none⟩ = false) := fun W' hb => ⟨(hn'.out.keptAll hb).cell 0, (hn'.out.keptAll hb).frozen 0⟩
        clear hAC hAt hS hn hT2 cgV chV hKr'
        by_cases h3 : r < 3
        · have h3i : (r : Int) < 3 := by omega
          have h3d : decide (r < 3) = true := by simpa using h3
          have h3e : decide ((r : Int) < 3) = true := by simpa using h3i
          gi_wp2_with fail
          refine wpIn_region_round (S := fun W' => (W'.cell? ⟨b5, 0, none⟩ = some (.slice (some ⟨gl, 0, none⟩) N cap) ∧ W'.cell? ⟨b7, 0, none⟩ = some (.int .i64 (r : Int)) ∧ W'.cell? ⟨gx, 0, none⟩ = some (.int .i64 (A : Int)) ∧ W'.cell? ⟨gx, 1, none⟩ = some (.int .i64 (C : Int)) ∧ W'.cell? ⟨gl, r * 2, none⟩ = some (.int .i64 (A : Int)) ∧ W'.cell? ⟨gl, r * 2 + 1, none⟩ = some (.int .i64 (C : Int)) ∧ W'.cell? ⟨b6, 0, none⟩ = some (.func (.func 37) #[] #[.pointer (some ⟨bm, 0, none⟩), .pointer (some ⟨bs, 0, none⟩)])) ∧ (TeS w V s kk (some ⟨gl, 0, none⟩) N cap bm bs g b5 b6 W' ∧ Below Wr.heap.size Wr W')) (by kernel_rfl) (by kernel_rfl) (fun _ _ h => h) hS0 (fun hHeld => ?_)
          (refine' wpAnyH_take (i := 0) rfl (by kernel_rfl) (by kernel_rfl) (by kernel_rfl) (fun _ _ _ h => h) (Or.inl ⟨by rfl, ?_⟩) (by assumption) ?_; rotate_left; (· (intro wq hq; (try dsimp only at hq); go_simp; first | done | with_reducible rfl)); simp only [Act.put, List.getElem_toArray, List.getElem_cons_zero, List.setIfInBounds_toArray, List.set_cons_zero, List.set_cons_succ])
          (refine' wpAnyH_take (i := 1) rfl (by kernel_rfl) (by kernel_rfl) (by kernel_rfl) (fun _ _ _ h => h) (Or.inl ⟨by rfl, ?_⟩) (by assumption) ?_; rotate_left; (· (intro wq hq; (try dsimp only at hq); go_simp; first | done | with_reducible rfl)); simp only [Act.put, List.getElem_toArray, List.getElem_cons_zero, List.getElem_cons_succ, List.setIfInBounds_toArray, List.set_cons_zero, List.set_cons_succ])
          (refine' wpAnyH_take (i := 2) rfl (by kernel_rfl) (by kernel_rfl) (by kernel_rfl) (fun _ _ _ h => h) (Or.inl ⟨by rfl, ?_⟩) (by assumption) ?_; rotate_left; (· (intro wq hq; (try dsimp only at hq); go_simp; first | done | with_reducible rfl)); simp only [Act.put, List.getElem_toArray, List.getElem_cons_zero, List.getElem_cons_succ, List.setIfInBounds_toArray, List.set_cons_zero, List.set_cons_succ])
          (refine' wpAnyH_take (i := 3) rfl (by kernel_rfl) (by kernel_rfl) (by kernel_rfl) (fun _ _ _ h => h) (Or.inl ⟨by rfl, ?_⟩) (by assumption) ?_; rotate_left; (· (intro wq hq; (try dsimp only at hq); go_simp; first | done | with_reducible rfl)); simp only [Act.put, List.getElem_toArray, List.getElem_cons_zero, List.getElem_cons_succ, List.setIfInBounds_toArray, List.set_cons_zero, List.set_cons_succ])
          (refine' wpAnyH_take (i := 4) rfl (by kernel_rfl) (by kernel_rfl) (by kernel_rfl) (fun _ _ _ h => h) (Or.inl ⟨by rfl, ?_⟩) (by assumption) ?_; rotate_left; (· (intro wq hq; (try dsimp only at hq); go_simp; first | done | with_reducible rfl)); simp only [Act.put, List.getElem_toArray, List.getElem_cons_zero, List.getElem_cons_succ, List.setIfInBounds_toArray, List.set_cons_zero, List.set_cons_succ])
          refine wpAnyH_ready (rs := [5]) (by kernel_rfl) (by simp) ?_
          refine AllReadyH.cons rfl (fun K hK => ?_) ?_
          · rw [if_pos (by rfl)]
            go_simp
            refine (told7_calls s (by omega) bm bs g N cap (some ⟨gl, 0, none⟩) _ hN hHeld.2.1.tx (hT'.out.below hHeld.2.1.bw hw0) (Nat.lt_of_lt_of_le hw0 hHeld.2.1.bw.size) (hL'.out.kept rfl hHeld.2.1.bV)).mono ?_
            rintro e wq ⟨rfl, hbq⟩
            have hb1 : Below Wr.heap.size Wr wq := (Below.refl _ Wr).drew.trans hbq
            refine hK.out _ _ (hkeep.out _ hb1) (fun hH => ?_)
            clear hK K
            (refine' wpAnyH_take (i := 6) rfl (by kernel_rfl) (by kernel_rfl) (by kernel_rfl) (fun _ _ _ h => h) (Or.inl ⟨by rfl, ?_⟩) (by assumption) ?_; rotate_left; (· (intro wq hq; (try dsimp only at hq); go_simp; first | done | with_reducible rfl)); simp only [Act.put, List.getElem_toArray, List.getElem_cons_zero, List.getElem_cons_succ, List.setIfInBounds_toArray, List.set_cons_zero, List.set_cons_succ])
            (refine' wpAnyH_take (i := 7) rfl (by kernel_rfl) (by kernel_rfl) (by kernel_rfl) (fun _ _ _ h => h) (Or.inl ⟨by rfl, ?_⟩) (by assumption) ?_; rotate_left; (· (intro wq hq; (try dsimp only at hq); go_simp; first | done | with_reducible rfl)); simp only [Act.put, List.getElem_toArray, List.getElem_cons_zero, List.getElem_cons_succ, List.setIfInBounds_toArray, List.set_cons_zero, List.set_cons_succ])
            (refine' wpAnyH_take (i := 8) rfl (by kernel_rfl) (by kernel_rfl) (by kernel_rfl) (fun _ _ _ h => h) (Or.inl ⟨by rfl, ?_⟩) (by assumption) ?_; rotate_left; (· (intro wq hq; (try dsimp only at hq); go_simp; first | done | with_reducible rfl)); simp only [Act.put, List.getElem_toArray, List.getElem_cons_zero, List.getElem_cons_succ, List.setIfInBounds_toArray, List.set_cons_zero, List.set_cons_succ])
            (refine' wpAnyH_take (i := 9) rfl (by kernel_rfl) (by kernel_rfl) (by kernel_rfl) (fun _ _ _ h => h) (Or.inl ⟨by rfl, ?_⟩) (by assumption) ?_; rotate_left; (· (intro wq hq; (try dsimp only at hq); go_simp; first | done | with_reducible rfl)); simp only [Act.put, List.getElem_toArray, List.getElem_cons_zero, List.getElem_cons_succ, List.setIfInBounds_toArray, List.set_cons_zero, List.set_cons_succ])
            (refine' wpAnyH_take (i := 10) rfl (by kernel_rfl) (by kernel_rfl) (by kernel_rfl) (fun _ _ _ h => h) (Or.inl ⟨by rfl, ?_⟩) (by assumption) ?_; rotate_left; (· (intro wq hq; (try dsimp only at hq); go_simp; first | done | with_reducible rfl)); simp only [Act.put, List.getElem_toArray, List.getElem_cons_zero, List.getElem_cons_succ, List.setIfInBounds_toArray, List.set_cons_zero, List.set_cons_succ])
            (refine' wpAnyH_take (i := 11) rfl (by kernel_rfl) (by kernel_rfl) (by kernel_rfl) (fun _ _ _ h => h) (Or.inl ⟨by rfl, ?_⟩) (by assumption) ?_; rotate_left; (· (intro wq hq; (try dsimp only at hq); go_simp; first | done | with_reducible rfl)); simp only [Act.put, List.getElem_toArray, List.getElem_cons_zero, List.getElem_cons_succ, List.setIfInBounds_toArray, List.set_cons_zero, List.set_cons_succ])
            (refine' wpAnyH_take (i := 12) rfl (by kernel_rfl) (by kernel_rfl) (by kernel_rfl) (fun _ _ _ h => h) (Or.inl ⟨by rfl, ?_⟩) (by assumption) ?_; rotate_left; (· (intro wq hq; (try dsimp only at hq); go_simp; first | done | with_reducible rfl)); simp only [Act.put, List.getElem_toArray, List.getElem_cons_zero, List.getElem_cons_succ, List.setIfInBounds_toArray, List.set_cons_zero, List.set_cons_succ])
            (refine' wpAnyH_take (i := 13) rfl (by kernel_rfl) (by kernel_rfl) (by kernel_rfl) (fun _ _ _ h => h) (Or.inl ⟨by rfl, ?_⟩) (by assumption) ?_; rotate_left; (· (intro wq hq; (try dsimp only at hq); go_simp; first | done | with_reducible rfl)); simp only [Act.put, List.getElem_toArray, List.getElem_cons_zero, List.getElem_cons_succ, List.setIfInBounds_toArray, List.set_cons_zero, List.set_cons_succ])
            (refine' wpAnyH_take (i := 14) rfl (by kernel_rfl) (by kernel_rfl) (by kernel_rfl) (fun _ _ _ h => h) (Or.inl ⟨by rfl, ?_⟩) (by assumption) ?_; rotate_left; (· (intro wq hq; (try dsimp only at hq); go_simp; first | done | with_reducible rfl)); simp only [Act.put, List.getElem_toArray, List.getElem_cons_zero, List.getElem_cons_succ, List.setIfInBounds_toArray, List.set_cons_zero, List.set_cons_succ])
            (refine' wpAnyH_take (i := 15) rfl (by kernel_rfl) (by kernel_rfl) (by kernel_rfl) (fun _ _ _ h => h) (Or.inl ⟨by rfl, ?_⟩) (by assumption) ?_; rotate_left; (· (intro wq hq; (try dsimp only at hq); go_simp; first | done | with_reducible rfl)); simp only [Act.put, List.getElem_toArray, List.getElem_cons_zero, List.getElem_cons_succ, List.setIfInBounds_toArray, List.set_cons_zero, List.set_cons_succ])
            (refine' wpAnyH_take (i := 16) rfl (by kernel_rfl) (by kernel_rfl) (by kernel_rfl) (fun _ _ _ h => h) (Or.inl ⟨by rfl, ?_⟩) (by assumption) ?_; rotate_left; (· (intro wq hq; (try dsimp only at hq); go_simp; first | done | with_reducible rfl)); simp only [Act.put, List.getElem_toArray, List.getElem_cons_zero, List.getElem_cons_succ, List.setIfInBounds_toArray, List.set_cons_zero, List.set_cons_succ])
            (refine' wpAnyH_take (i := 17) rfl (by kernel_rfl) (by kernel_rfl) (by kernel_rfl) (fun _ _ _ h => h) (Or.inl ⟨by rfl, ?_⟩) (by assumption) ?_; rotate_left; (· (intro wq hq; (try dsimp only at hq); go_simp; first | done | with_reducible rfl)); simp only [Act.put, List.getElem_toArray, List.getElem_cons_zero, List.getElem_cons_succ, List.setIfInBounds_toArray, List.set_cons_zero, List.set_cons_succ])
            (refine' wpAnyH_take (i := 18) rfl (by kernel_rfl) (by kernel_rfl) (by kernel_rfl) (fun _ _ _ h => h) (Or.inl ⟨by rfl, ?_⟩) (by assumption) ?_; rotate_left; (· (intro wq hq; (try dsimp only at hq); go_simp; first | done | with_reducible rfl)); simp only [Act.put, List.getElem_toArray, List.getElem_cons_zero, List.getElem_cons_succ, List.setIfInBounds_toArray, List.set_cons_zero, List.set_cons_succ])
            (refine' wpAnyH_take (i := 19) rfl (by kernel_rfl) (by kernel_rfl) (by kernel_rfl) (fun _ _ _ h => h) (Or.inl ⟨by rfl, ?_⟩) (by assumption) ?_; rotate_left; (· (intro wq hq; (try dsimp only at hq); go_simp; first | done | with_reducible rfl)); simp only [Act.put, List.getElem_toArray, List.getElem_cons_zero, List.getElem_cons_succ, List.setIfInBounds_toArray, List.set_cons_zero, List.set_cons_succ])
            (refine' wpAnyH_take (i := 20) rfl (by kernel_rfl) (by kernel_rfl) (by kernel_rfl) (fun _ _ _ h => h) (Or.inl ⟨by rfl, ?_⟩) (by assumption) ?_; rotate_left; (· (intro wq hq; (try dsimp only at hq); go_simp; first | done | with_reducible rfl)); simp only [Act.put, List.getElem_toArray, List.getElem_cons_zero, List.getElem_cons_succ, List.setIfInBounds_toArray, List.set_cons_zero, List.set_cons_succ])
            (refine' wpAnyH_take (i := 21) rfl (by kernel_rfl) (by kernel_rfl) (by kernel_rfl) (fun _ _ _ h => h) (Or.inl ⟨by rfl, ?_⟩) (by assumption) ?_; rotate_left; (· (intro wq hq; (try dsimp only at hq); go_simp; first | done | with_reducible rfl)); simp only [Act.put, List.getElem_toArray, List.getElem_cons_zero, List.getElem_cons_succ, List.setIfInBounds_toArray, List.set_cons_zero, List.set_cons_succ])
            refine wpAnyH_done (by kernel_rfl) ?_ _
            rename_i Kz hKz
            refine hKz _ _ ?_
            obtain ⟨k2, f2⟩ := cn.out wq hb1
            clear hKz Kz hHeld hS0 hge hge' hH hkeep cn
            gi_wp2
            exact fin.out _ hb1
          · exact AllReadyH.nil
        · have h3i : ¬ (r : Int) < 3 := by omega
          have h3d : decide (r < 3) = false := by simpa using h3
          have h3e : decide ((r : Int) < 3) = false := by simpa using h3i
          gi_wp2_with fail
          refine wpIn_region_round (S := fun W' => (W'.cell? ⟨b5, 0, none⟩ = some (.slice (some ⟨gl, 0, none⟩) N cap) ∧ W'.cell? ⟨b7, 0, none⟩ = some (.int .i64 (r : Int)) ∧ W'.cell? ⟨gx, 0, none⟩ = some (.int .i64 (A : Int)) ∧ W'.cell? ⟨gx, 1, none⟩ = some (.int .i64 (C : Int)) ∧ W'.cell? ⟨gl, r * 2, none⟩ = some (.int .i64 (A : Int)) ∧ W'.cell? ⟨gl, r * 2 + 1, none⟩ = some (.int .i64 (C : Int)) ∧ W'.cell? ⟨b6, 0, none⟩ = some (.func (.func 37) #[] #[.pointer (some ⟨bm, 0, none⟩), .pointer (some ⟨bs, 0, none⟩)])) ∧ (TeS w V s kk (some ⟨gl, 0, none⟩) N cap bm bs g b5 b6 W' ∧ Below Wr.heap.size Wr W')) (by kernel_rfl) (by kernel_rfl) (fun _ _ h => h) hS0 (fun hHeld => ?_)
          (refine' wpAnyH_take (i := 0) rfl (by kernel_rfl) (by kernel_rfl) (by kernel_rfl) (fun _ _ _ h => h) (Or.inl ⟨by rfl, ?_⟩) (by assumption) ?_; rotate_left; (· (intro wq hq; (try dsimp only at hq); go_simp; first | done | with_reducible rfl)); simp only [Act.put, List.getElem_toArray, List.getElem_cons_zero, List.setIfInBounds_toArray, List.set_cons_zero, List.set_cons_succ])
          (refine' wpAnyH_take (i := 1) rfl (by kernel_rfl) (by kernel_rfl) (by kernel_rfl) (fun _ _ _ h => h) (Or.inl ⟨by rfl, ?_⟩) (by assumption) ?_; rotate_left; (· (intro wq hq; (try dsimp only at hq); go_simp; first | done | with_reducible rfl)); simp only [Act.put, List.getElem_toArray, List.getElem_cons_zero, List.getElem_cons_succ, List.setIfInBounds_toArray, List.set_cons_zero, List.set_cons_succ])
          (refine' wpAnyH_take (i := 2) rfl (by kernel_rfl) (by kernel_rfl) (by kernel_rfl) (fun _ _ _ h => h) (Or.inl ⟨by rfl, ?_⟩) (by assumption) ?_; rotate_left; (· (intro wq hq; (try dsimp only at hq); go_simp; first | done | with_reducible rfl)); simp only [Act.put, List.getElem_toArray, List.getElem_cons_zero, List.getElem_cons_succ, List.setIfInBounds_toArray, List.set_cons_zero, List.set_cons_succ])
          (refine wpAnyH_take (i := 3) (v := undef) rfl (by kernel_rfl) (by kernel_rfl) (by kernel_rfl) (fun _ _ _ h => h) (Or.inr ⟨by rfl, rfl⟩) (by assumption) ?_; simp only [Act.put, List.getElem_toArray, List.getElem_cons_zero, List.getElem_cons_succ, List.setIfInBounds_toArray, List.set_cons_zero, List.set_cons_succ])
          (refine wpAnyH_take (i := 4) (v := undef) rfl (by kernel_rfl) (by kernel_rfl) (by kernel_rfl) (fun _ _ _ h => h) (Or.inr ⟨by rfl, rfl⟩) (by assumption) ?_; simp only [Act.put, List.getElem_toArray, List.getElem_cons_zero, List.getElem_cons_succ, List.setIfInBounds_toArray, List.set_cons_zero, List.set_cons_succ])
          (refine wpAnyH_take (i := 5) (v := undef) rfl (by kernel_rfl) (by kernel_rfl) (by kernel_rfl) (fun _ _ _ h => h) (Or.inr ⟨by rfl, rfl⟩) (by assumption) ?_; simp only [Act.put, List.getElem_toArray, List.getElem_cons_zero, List.getElem_cons_succ, List.setIfInBounds_toArray, List.set_cons_zero, List.set_cons_succ])
          (refine wpAnyH_take (i := 6) (v := undef) rfl (by kernel_rfl) (by kernel_rfl) (by kernel_rfl) (fun _ _ _ h => h) (Or.inr ⟨by rfl, rfl⟩) (by assumption) ?_; simp only [Act.put, List.getElem_toArray, List.getElem_cons_zero, List.getElem_cons_succ, List.setIfInBounds_toArray, List.set_cons_zero, List.set_cons_succ])
          (refine' wpAnyH_take (i := 7) rfl (by kernel_rfl) (by kernel_rfl) (by kernel_rfl) (fun _ _ _ h => h) (Or.inl ⟨by rfl, ?_⟩) (by assumption) ?_; rotate_left; (· (intro wq hq; (try dsimp only at hq); go_simp; first | done | with_reducible rfl)); simp only [Act.put, List.getElem_toArray, List.getElem_cons_zero, List.getElem_cons_succ, List.setIfInBounds_toArray, List.set_cons_zero, List.set_cons_succ])
          (refine' wpAnyH_take (i := 8) rfl (by kernel_rfl) (by kernel_rfl) (by kernel_rfl) (fun _ _ _ h => h) (Or.inl ⟨by rfl, ?_⟩) (by assumption) ?_; rotate_left; (· (intro wq hq; (try dsimp only at hq); go_simp; first | done | with_reducible rfl)); simp only [Act.put, List.getElem_toArray, List.getElem_cons_zero, List.getElem_cons_succ, List.setIfInBounds_toArray, List.set_cons_zero, List.set_cons_succ])
          (refine' wpAnyH_take (i := 9) rfl (by kernel_rfl) (by kernel_rfl) (by kernel_rfl) (fun _ _ _ h => h) (Or.inl ⟨by rfl, ?_⟩) (by assumption) ?_; rotate_left; (· (intro wq hq; (try dsimp only at hq); go_simp; first | done | with_reducible rfl)); simp only [Act.put, List.getElem_toArray, List.getElem_cons_zero, List.getElem_cons_succ, List.setIfInBounds_toArray, List.set_cons_zero, List.set_cons_succ])
          (refine' wpAnyH_take (i := 10) rfl (by kernel_rfl) (by kernel_rfl) (by kernel_rfl) (fun _ _ _ h => h) (Or.inl ⟨by rfl, ?_⟩) (by assumption) ?_; rotate_left; (· (intro wq hq; (try dsimp only at hq); go_simp; first | done | with_reducible rfl)); simp only [Act.put, List.getElem_toArray, List.getElem_cons_zero, List.getElem_cons_succ, List.setIfInBounds_toArray, List.set_cons_zero, List.set_cons_succ])
          (refine' wpAnyH_take (i := 11) rfl (by kernel_rfl) (by kernel_rfl) (by kernel_rfl) (fun _ _ _ h => h) (Or.inl ⟨by rfl, ?_⟩) (by assumption) ?_; rotate_left; (· (intro wq hq; (try dsimp only at hq); go_simp; first | done | with_reducible rfl)); simp only [Act.put, List.getElem_toArray, List.getElem_cons_zero, List.getElem_cons_succ, List.setIfInBounds_toArray, List.set_cons_zero, List.set_cons_succ])
          (refine' wpAnyH_take (i := 12) rfl (by kernel_rfl) (by kernel_rfl) (by kernel_rfl) (fun _ _ _ h => h) (Or.inl ⟨by rfl, ?_⟩) (by assumption) ?_; rotate_left; (· (intro wq hq; (try dsimp only at hq); go_simp; first | done | with_reducible rfl)); simp only [Act.put, List.getElem_toArray, List.getElem_cons_zero, List.getElem_cons_succ, List.setIfInBounds_toArray, List.set_cons_zero, List.set_cons_succ])
          (refine' wpAnyH_take (i := 13) rfl (by kernel_rfl) (by kernel_rfl) (by kernel_rfl) (fun _ _ _ h => h) (Or.inl ⟨by rfl, ?_⟩) (by assumption) ?_; rotate_left; (· (intro wq hq; (try dsimp only at hq); go_simp; first | done | with_reducible rfl)); simp only [Act.put, List.getElem_toArray, List.getElem_cons_zero, List.getElem_cons_succ, List.setIfInBounds_toArray, List.set_cons_zero, List.set_cons_succ])
          (refine' wpAnyH_take (i := 14) rfl (by kernel_rfl) (by kernel_rfl) (by kernel_rfl) (fun _ _ _ h => h) (Or.inl ⟨by rfl, ?_⟩) (by assumption) ?_; rotate_left; (· (intro wq hq; (try dsimp only at hq); go_simp; first | done | with_reducible rfl)); simp only [Act.put, List.getElem_toArray, List.getElem_cons_zero, List.getElem_cons_succ, List.setIfInBounds_toArray, List.set_cons_zero, List.set_cons_succ])
          (refine' wpAnyH_take (i := 15) rfl (by kernel_rfl) (by kernel_rfl) (by kernel_rfl) (fun _ _ _ h => h) (Or.inl ⟨by rfl, ?_⟩) (by assumption) ?_; rotate_left; (· (intro wq hq; (try dsimp only at hq); go_simp; first | done | with_reducible rfl)); simp only [Act.put, List.getElem_toArray, List.getElem_cons_zero, List.getElem_cons_succ, List.setIfInBounds_toArray, List.set_cons_zero, List.set_cons_succ])
          (refine' wpAnyH_take (i := 16) rfl (by kernel_rfl) (by kernel_rfl) (by kernel_rfl) (fun _ _ _ h => h) (Or.inl ⟨by rfl, ?_⟩) (by assumption) ?_; rotate_left; (· (intro wq hq; (try dsimp only at hq); go_simp; first | done | with_reducible rfl)); simp only [Act.put, List.getElem_toArray, List.getElem_cons_zero, List.getElem_cons_succ, List.setIfInBounds_toArray, List.set_cons_zero, List.set_cons_succ])
          (refine' wpAnyH_take (i := 17) rfl (by kernel_rfl) (by kernel_rfl) (by kernel_rfl) (fun _ _ _ h => h) (Or.inl ⟨by rfl, ?_⟩) (by assumption) ?_; rotate_left; (· (intro wq hq; (try dsimp only at hq); go_simp; first | done | with_reducible rfl)); simp only [Act.put, List.getElem_toArray, List.getElem_cons_zero, List.getElem_cons_succ, List.setIfInBounds_toArray, List.set_cons_zero, List.set_cons_succ])
          (refine' wpAnyH_take (i := 18) rfl (by kernel_rfl) (by kernel_rfl) (by kernel_rfl) (fun _ _ _ h => h) (Or.inl ⟨by rfl, ?_⟩) (by assumption) ?_; rotate_left; (· (intro wq hq; (try dsimp only at hq); go_simp; first | done | with_reducible rfl)); simp only [Act.put, List.getElem_toArray, List.getElem_cons_zero, List.getElem_cons_succ, List.setIfInBounds_toArray, List.set_cons_zero, List.set_cons_succ])
          (refine' wpAnyH_take (i := 19) rfl (by kernel_rfl) (by kernel_rfl) (by kernel_rfl) (fun _ _ _ h => h) (Or.inl ⟨by rfl, ?_⟩) (by assumption) ?_; rotate_left; (· (intro wq hq; (try dsimp only at hq); go_simp; first | done | with_reducible rfl)); simp only [Act.put, List.getElem_toArray, List.getElem_cons_zero, List.getElem_cons_succ, List.setIfInBounds_toArray, List.set_cons_zero, List.set_cons_succ])
          (refine' wpAnyH_take (i := 20) rfl (by kernel_rfl) (by kernel_rfl) (by kernel_rfl) (fun _ _ _ h => h) (Or.inl ⟨by rfl, ?_⟩) (by assumption) ?_; rotate_left; (· (intro wq hq; (try dsimp only at hq); go_simp; first | done | with_reducible rfl)); simp only [Act.put, List.getElem_toArray, List.getElem_cons_zero, List.getElem_cons_succ, List.setIfInBounds_toArray, List.set_cons_zero, List.set_cons_succ])
          (refine' wpAnyH_take (i := 21) rfl (by kernel_rfl) (by kernel_rfl) (by kernel_rfl) (fun _ _ _ h => h) (Or.inl ⟨by rfl, ?_⟩) (by assumption) ?_; rotate_left; (· (intro wq hq; (try dsimp only at hq); go_simp; first | done | with_reducible rfl)); simp only [Act.put, List.getElem_toArray, List.getElem_cons_zero, List.getElem_cons_succ, List.setIfInBounds_toArray, List.set_cons_zero, List.set_cons_succ])
          refine wpAnyH_done (by kernel_rfl) ?_ _
          rename_i Kz hKz
          refine hKz _ _ ?_
          obtain ⟨k2, f2⟩ := cn.out Wr.drew (Below.refl _ _).drew
          clear hKz Kz hHeld hS0 hge hge' hkeep cn
          gi_wp2
          exact fin.out _ (Below.refl _ _).drew
      case done =>
        rintro D2 Wd hD2 ⟨⟨hS, hn⟩, hK1⟩ hK2
        rw [hN.out] at hn
        have q5 := hS.lst.cell 0
        have q7 := hn.cell 0
        have qr := hS.res.cell 0
        have fr := hS.res.frozen 0
        simp only [List.getElem?_toArray, List.getElem?_cons_zero] at q5 q7 qr
        have hBe := hS.bw.setCell (p := ⟨w.heap.size + 1, 0, none⟩) (by show w.heap.size ≤ w.heap.size + 1; omega) (.bool true)
        have k2 : (Wd.setCell ⟨w.heap.size + 1, 0, none⟩ (.bool true)).heap[D2]? = some (.deferred (some [])) := (Below.heap_setCell Wd ⟨w.heap.size + 1, 0, none⟩ _ D2 (by show D2 ≠ w.heap.size + 1; omega)).trans hK2
        have k1 : (Wd.setCell ⟨w.heap.size + 1, 0, none⟩ (.bool true)).heap[D]? = some (.deferred (some [])) := (Below.heap_setCell Wd ⟨w.heap.size + 1, 0, none⟩ _ D (by show D ≠ w.heap.size + 1; omega)).trans hK1
        have k1' : ((Wd.setCell ⟨w.heap.size + 1, 0, none⟩ (.bool true)).putObj D2 (.deferred none)).heap[D]? = some (.deferred (some [])) := (World.putObj_heap_other (by omega)).trans k1
        have cr := World.cell?_setCell_same' Wd ⟨w.heap.size + 1, 0, none⟩ (.bool true) (by rw [qr]; rfl)
        have cr2 := cell_kept cr (grownBy_putObj' _ D2 (.deferred none)) (fun r e => by cases e; exact ⟨_, k2, rfl⟩)
        have cr3 := cell_kept cr2 (grownBy_putObj' _ D (.deferred none)) (fun r e => by cases e; exact ⟨_, k1', rfl⟩)
        have hBe2 := hBe.trans (belowK_b (w := w) (Nat.le_refl _) _ D2 _ (.deferred none) (by omega) k2 rfl rfl)
        have hBe3 := hBe2.trans (belowK_b (w := w) (Nat.le_refl _) _ D _ (.deferred none) (by omega) k1' rfl rfl)
        have eNN : ((N : Int) == (N : Int)) = true := by simp
        rename_i Kz hKz
        refine hKz _ _ ?_
        clear hKz Kz
        go_wp2
        refine ⟨by simp, .inl ⟨_, _, rfl, run_takeDeferred k2, ?_⟩⟩
        refine ⟨by simp, .inl ⟨_, _, rfl, run_takeDeferred k1', ?_⟩⟩
        refine ⟨.bool true, ?_, rfl, hBe3⟩
        simp [results, Tryd.f5, go_sem, cr3]
      case stop =>
        rintro D2 c r W' _ _ h _
        exact h.elim
  refine (wpIn_wide (n := 3)).1 ?_
  refine range_tell (n := 3) (by decide) (gf := 37) (lb := #[.pointer (some ⟨bm, 0, none⟩), .pointer (some ⟨bs, 0, none⟩)]) rfl (enters_of Tryd.func37 (by kernel_rfl) rfl)
    (texts_tell (3 - 1) bm bs g s (by omega) W7 hS4'.out.tx (hT'.out.below hB7 hw0) (by omega)) (Below.refl _ _) (fun _ => rfl) KeepT.trans (keepT_l (w := W7) (by omega))
    (fun r W => TeS w V s kk ao N cap bm bs g b5 b6 W ∧ At W b7 #[.int .i64 (r : Int)] 3) (fun c r W => c = .exit 0 ∧ TeS w V s kk ao N cap bm bs g b5 b6 W ∧ At W b7 #[.int .i64 kk] 3)
    (fun r X Z row h hg hr => ⟨h.1.own hB7.size hVz hg hr, h.2.own hg (fun r e => (hr r e).2)⟩) (fun c r X Z row h hg hr => ⟨h.1, h.2.1.own hB7.size hVz hg hr, h.2.2.own hg (fun r e => (hr r e).2)⟩) hI0 (TeA1 w s kk ao N cap bm bs b5 b6 b7) (fun x a' => teA1_own x a') ?assign ?body ?done ?stop
  case assign =>
    intro l x W KK hx hI hKK
    obtain ⟨⟨A, C⟩, hAC⟩ : ∃ y, Hid (spn s x = y) := ⟨_, rfl⟩
    rw [encT, hAC.out]
    have hb : Below W.heap.size W (W.alloc (.cells #[.int .i64 (A : Int), .int .i64 (C : Int)] 36)) := by repeat (first | with_reducible exact Below.refl _ _ | with_reducible refine Below.setCell ?_ (by first | (simp; done) | (simp; omega)) _ | with_reducible refine below_drewN ?_ _ | with_reducible refine Below.alloc ?_ (by first | (simp; done) | (simp; omega)) _ | with_reducible refine Below.drew ?_)
    have hK2 := fun a' => hKK a' _ ((keeps_below hb).from _) (KeepT.of_below hb) ⟨hI.1.kept hb, hI.2.keptAll hb⟩
    have hgt : b7 < W.heap.size := hI.2.lt
    clear hKK hI hb rest
    gi_wp2
    exact ⟨W.heap.size, A, C, hAC, hgt, At.new W _ _, rfl⟩
  case body =>
    rintro l r a' W hll ⟨rec, hrec⟩ hlt ⟨hS, hn⟩ ⟨gx, A, C, hAC, hgx, hAt, rfl⟩
    rw [hN.out] at hlt
    obtain ⟨gl, rfl, cg, ch⟩ := hS.at hL'.out hN.out hlt hAC.out
    have hli : (r : Int) < (N : Int) := by omega
    have hge : decide ((N : Int) ≤ (r : Int)) = false := by simp; omega
    have hge' : (decide (N ≤ r)) = false := by simp; omega
    have k0 := hS.lst.cell 0
    have k2 := hn.cell 0
    have x0 := hAt.cell 0
    have x1 := hAt.cell 1
    simp only [List.getElem?_toArray, List.getElem?_cons_zero, List.getElem?_cons_succ] at k0 k2 x0 x1
    have hS' := hid hS
    have hn' := hid hn
    have hS0 : W.drew.cell? ⟨b5, 0, none⟩ = some (.slice (some ⟨gl, 0, none⟩) N cap) ∧ W.drew.cell? ⟨b7, 0, none⟩ = some (.int .i64 (r : Int)) ∧ W.drew.cell? ⟨gx, 0, none⟩ = some (.int .i64 (A : Int)) ∧ W.drew.cell? ⟨gx, 1, none⟩ = some (.int .i64 (C : Int)) ∧ W.drew.cell? ⟨gl, r * 2, none⟩ = some (.int .i64 (A : Int)) ∧ W.drew.cell? ⟨gl, r * 2 + 1, none⟩ = some (.int .i64 (C : Int)) := ⟨k0, k2, x0, x1, cg, ch⟩
    clear k0 k2 x0 x1 cg ch hAC hAt rest hS hn hI0
    gi_wp2_with fail
    refine wpIn_region_round (S := fun W' => W'.cell? ⟨b5, 0, none⟩ = some (.slice (some ⟨gl, 0, none⟩) N cap) ∧ W'.cell? ⟨b7, 0, none⟩ = some (.int .i64 (r : Int)) ∧ W'.cell? ⟨gx, 0, none⟩ = some (.int .i64 (A : Int)) ∧ W'.cell? ⟨gx, 1, none⟩ = some (.int .i64 (C : Int)) ∧ W'.cell? ⟨gl, r * 2, none⟩ = some (.int .i64 (A : Int)) ∧ W'.cell? ⟨gl, r * 2 + 1, none⟩ = some (.int .i64 (C : Int))) (by kernel_rfl) (by kernel_rfl) (fun _ _ h => h) hS0 (fun hHeld => ?_)
    (refine' wpAnyH_take (i := 0) rfl (by kernel_rfl) (by kernel_rfl) (by kernel_rfl) (fun _ _ _ h => h) (Or.inl ⟨by rfl, ?_⟩) (by assumption) ?_; rotate_left; (· (intro wq hq; (try dsimp only at hq); go_simp; first | done | with_reducible rfl)); simp only [Act.put, List.getElem_toArray, List.getElem_cons_zero, List.setIfInBounds_toArray, List.set_cons_zero, List.set_cons_succ])
    (refine' wpAnyH_take (i := 1) rfl (by kernel_rfl) (by kernel_rfl) (by kernel_rfl) (fun _ _ _ h => h) (Or.inl ⟨by rfl, ?_⟩) (by assumption) ?_; rotate_left; (· (intro wq hq; (try dsimp only at hq); go_simp; first | done | with_reducible rfl)); simp only [Act.put, List.getElem_toArray, List.getElem_cons_zero, List.getElem_cons_succ, List.setIfInBounds_toArray, List.set_cons_zero, List.set_cons_succ])
    (refine' wpAnyH_take (i := 2) rfl (by kernel_rfl) (by kernel_rfl) (by kernel_rfl) (fun _ _ _ h => h) (Or.inl ⟨by rfl, ?_⟩) (by assumption) ?_; rotate_left; (· (intro wq hq; (try dsimp only at hq); go_simp; first | done | with_reducible rfl)); simp only [Act.put, List.getElem_toArray, List.getElem_cons_zero, List.getElem_cons_succ, List.setIfInBounds_toArray, List.set_cons_zero, List.set_cons_succ])
    (refine' wpAnyH_take (i := 3) rfl (by kernel_rfl) (by kernel_rfl) (by kernel_rfl) (fun _ _ _ h => h) (Or.inl ⟨by rfl, ?_⟩) (by assumption) ?_; rotate_left; (· (intro wq hq; (try dsimp only at hq); go_simp; first | done | with_reducible rfl)); simp only [Act.put, List.getElem_toArray, List.getElem_cons_zero, List.getElem_cons_succ, List.setIfInBounds_toArray, List.set_cons_zero, List.set_cons_succ])
    (refine' wpAnyH_take (i := 4) rfl (by kernel_rfl) (by kernel_rfl) (by kernel_rfl) (fun _ _ _ h => h) (Or.inl ⟨by rfl, ?_⟩) (by assumption) ?_; rotate_left; (· (intro wq hq; (try dsimp only at hq); go_simp; first | done | with_reducible rfl)); simp only [Act.put, List.getElem_toArray, List.getElem_cons_zero, List.getElem_cons_succ, List.setIfInBounds_toArray, List.set_cons_zero, List.set_cons_succ])
    (refine' wpAnyH_take (i := 5) rfl (by kernel_rfl) (by kernel_rfl) (by kernel_rfl) (fun _ _ _ h => h) (Or.inl ⟨by rfl, ?_⟩) (by assumption) ?_; rotate_left; (· (intro wq hq; (try dsimp only at hq); go_simp; first | done | with_reducible rfl)); simp only [Act.put, List.getElem_toArray, List.getElem_cons_zero, List.getElem_cons_succ, List.setIfInBounds_toArray, List.set_cons_zero, List.set_cons_succ])
    (refine' wpAnyH_take (i := 6) rfl (by kernel_rfl) (by kernel_rfl) (by kernel_rfl) (fun _ _ _ h => h) (Or.inl ⟨by rfl, ?_⟩) (by assumption) ?_; rotate_left; (· (intro wq hq; (try dsimp only at hq); go_simp; first | done | with_reducible rfl)); simp only [Act.put, List.getElem_toArray, List.getElem_cons_zero, List.getElem_cons_succ, List.setIfInBounds_toArray, List.set_cons_zero, List.set_cons_succ])
    (refine' wpAnyH_take (i := 7) rfl (by kernel_rfl) (by kernel_rfl) (by kernel_rfl) (fun _ _ _ h => h) (Or.inl ⟨by rfl, ?_⟩) (by assumption) ?_; rotate_left; (· (intro wq hq; (try dsimp only at hq); go_simp; first | done | with_reducible rfl)); simp only [Act.put, List.getElem_toArray, List.getElem_cons_zero, List.getElem_cons_succ, List.setIfInBounds_toArray, List.set_cons_zero, List.set_cons_succ])
    (refine' wpAnyH_take (i := 8) rfl (by kernel_rfl) (by kernel_rfl) (by kernel_rfl) (fun _ _ _ h => h) (Or.inl ⟨by rfl, ?_⟩) (by assumption) ?_; rotate_left; (· (intro wq hq; (try dsimp only at hq); go_simp; first | done | with_reducible rfl)); simp only [Act.put, List.getElem_toArray, List.getElem_cons_zero, List.getElem_cons_succ, List.setIfInBounds_toArray, List.set_cons_zero, List.set_cons_succ])
    (refine' wpAnyH_take (i := 9) rfl (by kernel_rfl) (by kernel_rfl) (by kernel_rfl) (fun _ _ _ h => h) (Or.inl ⟨by rfl, ?_⟩) (by assumption) ?_; rotate_left; (· (intro wq hq; (try dsimp only at hq); go_simp; first | done | with_reducible rfl)); simp only [Act.put, List.getElem_toArray, List.getElem_cons_zero, List.getElem_cons_succ, List.setIfInBounds_toArray, List.set_cons_zero, List.set_cons_succ])
    (refine' wpAnyH_take (i := 10) rfl (by kernel_rfl) (by kernel_rfl) (by kernel_rfl) (fun _ _ _ h => h) (Or.inl ⟨by rfl, ?_⟩) (by assumption) ?_; rotate_left; (· (intro wq hq; (try dsimp only at hq); go_simp; first | done | with_reducible rfl)); simp only [Act.put, List.getElem_toArray, List.getElem_cons_zero, List.getElem_cons_succ, List.setIfInBounds_toArray, List.set_cons_zero, List.set_cons_succ])
    (refine' wpAnyH_take (i := 11) rfl (by kernel_rfl) (by kernel_rfl) (by kernel_rfl) (fun _ _ _ h => h) (Or.inl ⟨by rfl, ?_⟩) (by assumption) ?_; rotate_left; (· (intro wq hq; (try dsimp only at hq); go_simp; first | done | with_reducible rfl)); simp only [Act.put, List.getElem_toArray, List.getElem_cons_zero, List.getElem_cons_succ, List.setIfInBounds_toArray, List.set_cons_zero, List.set_cons_succ])
    refine wpAnyH_done (by kernel_rfl) ?_ _
    rename_i Kz hKz
    refine hKz _ _ ?_
    clear hKz Kz hHeld hS0 hge hge'
    have k2 := hn'.out.cell 0
    have f2 := hn'.out.frozen 0
    have kk0 := hS'.out.k.cell 0
    simp only [List.getElem?_toArray, List.getElem?_cons_zero] at k2 kk0
    by_cases hkk : (r : Int) = kk
    · have hkk' : ((r : Int) == kk) = true := by simpa using hkk
      gi_wp2
      refine ⟨(KeepsOthers.drew _).from _, rfl, hS'.out.kept (Below.refl _ _).drew, ?_⟩
      rw [← hkk]
      exact hn'.out.drew
    · have hkk' : ((r : Int) == kk) = false := by simpa using hkk
      clear hkk
      gi_wp2
      refine ⟨((KeepsOthers.setCell _ _ _).trans (KeepsOthers.drew _)).from _, (KeepT.setCell (p := ⟨b7, 0, none⟩) (by show bs ≠ b7; omega) (by show bm ≠ b7; omega) (by show g ≠ b7; omega) (by show 0 < b7; omega) _).trans (KeepT.drew _), ?_, ?_⟩
      · exact (hS'.out.other (p := ⟨b7, 0, none⟩) (by show b5 < b7; omega) (by show b6 < b7; omega) (by show bm < b7; omega) (by show bs < b7; omega) (by show g < b7; omega) (by show w.heap.size + 1 < b7; omega) (by show V.heap.size ≤ b7; omega) _).kept (Below.refl _ _).drew
      · exact hn'.out.set 0 _
  case done =>
    rintro D W hD ⟨hS, hn⟩ hK
    rw [hN.out] at hn
    exact rest D W _ (by omega) hS hn (.inr rfl) hK
  case stop =>
    rintro D c r W hD - ⟨rfl, hS, hn⟩ hK
    gi_wp2
    exact rest D W kk (by omega) hS hn (.inl rfl) hK
theorem quotesTexts_walk (s : ByteArray) (hs : s.size ≤ 1048576) (kk : Int) (_ : (Lit.int .i64 kk).wf = true) (w : World) (hT : Tab w) (h0 : 0 < w.heap.size) :
    Calls Tryd.prog 5 #[.string s, .int .i64 kk] w fun e w' => e = .returned (.bool true) ∧ Below w.heap.size w w' := callsIn_wide.1 (qtexts_in s hs kk w hT h0)
end Go.Proofs.YtmjmcdoanolelaaDoor
