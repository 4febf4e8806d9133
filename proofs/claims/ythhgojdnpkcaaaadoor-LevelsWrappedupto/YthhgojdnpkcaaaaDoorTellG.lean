/-
  A range over an iterator that itself ranges over one: what it tells, number by number; Good is what it asks of the world between two rounds.
-/
import Derived.Test.YthhgojdnpkcaaaaDoorQuoB
import Derived.Test.YthhgojdnpkcaaaaDoorEachTell
import Derived.Test.YthhgojdnpkcaaaaDoorBitEach2
namespace Go.Proofs.YthhgojdnpkcaaaaDoor
open Go.RowKit Go.Shelf

attribute [local go_sem] Oper.semAt_some

section
variable {P : Program}
/-- An iterator's contract: it tells enc 0, enc 1, .. up to N of them, as long as the yield answers true; Kp is what it asks of each round. -/
def SeqTellG (Good : World → Prop) (n : Nat) (P : Program) (g : Nat) (lb : Array Value) (enc : Nat → Array Value) (Kp : Nat → World → World → Prop) (N : Nat) (w : World) : Prop :=
  ∀ (l : Nat) (J Jx : Nat → World → Prop) (W : World), Below w.heap.size w W → OwnFrom W.heap.size J → OwnFrom W.heap.size Jx → (∀ r A, J r A → Good A) →
    (∀ r W1, J r W1 → r < N → YieldAt Fence.wide (n - 1) P l (enc r) W1 fun e W' =>
      (e = .returned (.bool true) ∧ J (r + 1) W' ∧ Kp W.heap.size W1 W') ∨ (e = .returned (.bool false) ∧ Jx (r + 1) W' ∧ Kp W.heap.size W1 W')) →
    J 0 W →
    CallsIn Fence.wide n P g (#[.func (.yield l) #[] #[]] ++ lb) W fun e W' => (∃ v, e = .returned v) ∧ (J N W' ∨ ∃ r, r ≤ N ∧ Jx r W')
/-- How the body of a round may be left. -/
def tellPostG (B : Nat) (Kp : World → World → Prop) (I : Nat → World → Prop) (Ix : Code → Nat → World → Prop) (r : Nat) (W : World) : Exit → Act → World → Prop
  | .normal, _, W' => KeepsFrom B W W' ∧ Kp W W' ∧ I r W'
  | .ret, _, W' => KeepsFrom B W W' ∧ Kp W W' ∧ Ix .ret r W'
  | .exit id, _, W' => KeepsFrom B W W' ∧ Kp W W' ∧ Ix (.exit id) r W'
  | .goto t, _, W' => KeepsFrom B W W' ∧ Kp W W' ∧ Ix (.goto t) r W'
  | .panic _, _, _ => False
  | .outgrown, _, _ => False
theorem range_tellG {Good : World → Prop} {n : Nat} {g : Operand} {ps : Array Tmp} {assign body : Code} {Q : Exit → Act → World → Prop} {a : Act} {w : World}
    (hn : 1 ≤ n) {gf : Nat} {lb : Array Value} (hg : a.eval g = .func (.func gf) #[] lb) (eg : ∀ args w, (callFunc gf args).run P w = .ok (.enter gf args) w)
    {enc : Nat → Array Value} {Kp : Nat → World → World → Prop} {N : Nat} {w0 : World} (hseq : SeqTellG Good (n - 1) P gf lb enc Kp N w0) (hb0 : Below w0.heap.size w0 w) (hps : ∀ x, (enc x).size = ps.size)
    (hKt : ∀ {b : Nat} {A B C : World}, Kp b A B → Kp b B C → Kp b A C) (hKl : ∀ (W : World) (l : Nat) (r r' : Loop), w.heap.size ≤ l → l < w.heap.size + 1 + 1 → W.heap[l]? = some (.loop r) → Kp (w.heap.size + 1 + 1) W (W.putObj l (.loop r')))
    (I : Nat → World → Prop) (Ix : Code → Nat → World → Prop) (hI : OwnFrom w.heap.size I) (hIx : ∀ c, OwnFrom w.heap.size (Ix c)) (h0 : I 0 w) (hGd : ∀ r W, I r W → Good W)
    (Ax : Nat → Act → World → Prop) (hAx : ∀ x a', OwnFrom w.heap.size (fun (_ : Unit) W => Ax x a' W))
    (hassign : ∀ (l : Nat) (r : Nat) (W : World) (K : Act → World → Prop), r < N → I r W → (∀ a' W', KeepsFrom w.heap.size W W' → Kp (w.heap.size + 1 + 1) W W' → I r W' → Ax r a' W' → K a' W') →
      assign.wpIn (Fence.wide.inRound l) (n - 1 - 1) P (Exit.then K (fun _ _ _ => False)) { tmps := (ps.zip (enc r)).foldl (fun t (p, v) => t.setIfInBounds p v) a.tmps, defers := [] } W)
    (hbody : ∀ (l : Nat) (r : Nat) (a' : Act) (W : World), w.heap.size ≤ l → (∃ r, W.heap[l]? = some (.loop r)) → r < N → I r W → Ax r a' W → body.wpIn (Fence.wide.inRound l) (n - 1 - 1) P (tellPostG w.heap.size (Kp (w.heap.size + 1 + 1)) I Ix (r + 1) W) a' W)
    (hdone : ∀ (D : Nat) (W : World), w.heap.size ≤ D → I N W → W.heap[D]? = some (.deferred (some [])) → Q .normal { a with defers := { target := .collected D, args := #[] } :: a.defers } W)
    (hstop : ∀ (D : Nat) (c : Code) (r : Nat) (W : World), w.heap.size ≤ D → r ≤ N → Ix c r W → W.heap[D]? = some (.deferred (some [])) → c.wpIn Fence.wide n P Q { a with defers := { target := .collected D, args := #[] } :: a.defers } W) :
    (Code.rangeFunc g ps assign body).wpIn Fence.wide n P Q a w := by
  refine wpIn_rangeFunc fun fn hfn => ?_
  obtain ⟨L, hL⟩ : ∃ L : LoopState → Option Code → Loop, L = fun st pe => { state := st, pending := pe, fn, tmps := a.tmps, params := ps, assign, body, defers := w.heap.size } := ⟨_, rfl⟩
  have book1 := Book.new w (L .ready none)
  have inv1 : I 0 ((w.alloc (.deferred (some []))).alloc (.loop (L .ready none))) := hI.alloc _ (hI.alloc _ h0)
  have below1 : Below w0.heap.size w0 ((w.alloc (.deferred (some []))).alloc (.loop (L .ready none))) :=
    hb0.trans ((((Below.refl _ w).alloc (Nat.le_refl _) _).alloc (by simp) _).mono hb0.size)
  have size1 : ((w.alloc (.deferred (some []))).alloc (.loop (L .ready none))).heap.size = w.heap.size + 1 + 1 := by simp
  have enter1 : (Instr.enterLoop fn a.tmps ps assign body Fence.wide.round).run P w = .ok (w.heap.size + 1, [{ target := .collected w.heap.size, args := #[] }]) ((w.alloc (.deferred (some []))).alloc (.loop (L .ready none))) := by
    rw [hL]; exact run_enterLoop_outer _ _ _ _ _
  generalize (w.alloc (.deferred (some []))).alloc (.loop (L .ready none)) = W1 at *
  -- between two rounds, and behind the one that has left
  obtain ⟨J, hJ⟩ : ∃ J : Nat → World → Prop, J = fun r W => I r W ∧ Book w.heap.size (L .ready none) W := ⟨_, rfl⟩
  obtain ⟨Jx, hJx⟩ : ∃ Jx : Nat → World → Prop, Jx = fun r W => ∃ c, Ix c r W ∧ Book w.heap.size (L .done (some c)) W := ⟨_, rfl⟩
  have own : ∀ {A : World} {row : Option Nat}, (∀ r, row = some r → W1.heap.size ≤ r ∧ ∃ o : Obj, A.heap[r]? = some o ∧ o.isCells = false) → ∀ r, row = some r → w.heap.size ≤ r ∧ ∃ o : Obj, A.heap[r]? = some o ∧ o.isCells = false := fun hr r e => by
    obtain ⟨h1, o, h2, h3⟩ := hr r e
    exact ⟨by omega, o, h2, h3⟩
  have abJ : OwnFrom W1.heap.size J := fun s X Y row hs hg' hr => by
    rw [hJ] at hs ⊢
    exact ⟨hI s X Y row hs.1 hg' (own hr), hs.2.grown hg' (fun r e => by have := (hr r e).1; omega)⟩
  have abJx : OwnFrom W1.heap.size Jx := fun s X Y row hs hg' hr => by
    rw [hJx] at hs ⊢
    obtain ⟨c, h1, h2⟩ := hs
    exact ⟨c, hIx c s X Y row h1 hg' (own hr), h2.grown hg' (fun r e => by have := (hr r e).1; omega)⟩
  have round : ∀ r W, J r W → r < N → YieldAt Fence.wide (n - 1 - 1) P (w.heap.size + 1) (enc r) W fun e W' =>
      (e = .returned (.bool true) ∧ J (r + 1) W' ∧ Kp (w.heap.size + 1 + 1) W W') ∨ (e = .returned (.bool false) ∧ Jx (r + 1) W' ∧ Kp (w.heap.size + 1 + 1) W W') := by
    intro r W hs hlt
    rw [hJ] at hs
    obtain ⟨inv, book⟩ := hs
    have hy := run_yield (P := P) (args := enc r) book.1 (by rw [hL]; exact hps r)
    rw [hL] at hy
    refine ⟨fn, _, assign, body, hy, roundIn_of_wpIn hfn (hassign _ r W _ hlt inv ?_)⟩
    clear hy
    intro a' Wa hka hkpa inva hax
    have booka := book.keeps hka
    refine ⟨_, run_beginRound booka.1 (by rw [hL]), ?_⟩
    have busy := booka.turn { L .ready none with state := .busy }
    have invB := hI.putObj (.loop { L .ready none with state := .busy }) inva (by omega) booka.1 rfl
    have axB := (hAx r a').putObj (s := ()) (.loop { L .ready none with state := .busy }) hax (by omega) booka.1 rfl
    have kpB := hKt hkpa (hKl Wa (w.heap.size + 1) _ { L .ready none with state := .busy } (by omega) (by omega) booka.1)
    generalize Wa.putObj (w.heap.size + 1) (.loop { L .ready none with state := .busy }) = WB at *
    refine wpIn_mono (hbody _ r a' WB (by omega) ⟨_, busy.1⟩ hlt invB axB) ?_
    have last : ∀ (jump : Option Code) (W3 : World), KeepsFrom w.heap.size WB W3 → (Instr.endRound (w.heap.size + 1) jump).run P W3 = .ok (.bool jump.isNone) (W3.putObj (w.heap.size + 1) (.loop (L (if jump.isNone then .ready else .done) jump))) ∧ Book w.heap.size { L .ready none with state := .busy } W3 := fun jump W3 hk => by
      have b3 := busy.keeps hk
      have e := run_endRound (P := P) jump b3.1
      refine ⟨?_, b3⟩
      rw [hL] at e ⊢
      exact e
    have leave : ∀ (c : Code) (W3 : World), KeepsFrom w.heap.size WB W3 ∧ Kp (w.heap.size + 1 + 1) WB W3 ∧ Ix c (r + 1) W3 → ∃ v W4, (Instr.endRound (w.heap.size + 1) (some c)).run P W3 = .ok v W4 ∧
        ((Ending.returned v = .returned (.bool true) ∧ J (r + 1) W4 ∧ Kp (w.heap.size + 1 + 1) W W4) ∨ (Ending.returned v = .returned (.bool false) ∧ Jx (r + 1) W4 ∧ Kp (w.heap.size + 1 + 1) W W4)) := fun c W3 ⟨hk, hkp, hx⟩ => by
      obtain ⟨e, b3⟩ := last (some c) W3 hk
      exact ⟨_, _, e, .inr ⟨rfl, by rw [hJx]; exact ⟨c, (hIx c).putObj _ hx (by omega) b3.1 rfl, b3.turn _⟩, hKt kpB (hKt hkp (hKl W3 _ _ _ (by omega) (by omega) b3.1))⟩⟩
    intro e a3 W3 hp
    cases e with
    | normal =>
      obtain ⟨hk, hkp, hi3⟩ := hp
      obtain ⟨e, b3⟩ := last none W3 hk
      exact ⟨_, _, e, .inl ⟨rfl, by rw [hJ]; exact ⟨hI.putObj _ hi3 (by omega) b3.1 rfl, b3.turn _⟩, hKt kpB (hKt hkp (hKl W3 _ _ _ (by omega) (by omega) b3.1))⟩⟩
    | ret => exact leave _ W3 hp
    | exit id => exact leave _ W3 hp
    | goto t => exact leave _ W3 hp
    | panic ch => exact hp.elim
    | outgrown => exact hp.elim
  refine ⟨w.heap.size + 1, [{ target := .collected w.heap.size, args := #[] }], W1, { target := .fn (.func gf) lb, args := #[.func (.yield (w.heap.size + 1)) #[] #[]] }, W1, gf,
    #[.func (.yield (w.heap.size + 1)) #[] #[]] ++ lb, W1, enter1, ?_, ?_, ?_, fun _ => hn, ?_⟩
  · simp only [resolve, hg]
    simp [go_sem]
  · intro f' _; trivial
  · simp [invoke, go_sem, eg]
  · refine (hseq (w.heap.size + 1) J Jx W1 below1 abJ abJx (fun r A h => hGd r A (by rw [hJ] at h; exact h.1)) (by rw [size1]; exact round) (by rw [hJ]; exact ⟨inv1, book1⟩)).mono ?_
    rintro e W2 ⟨⟨v, rfl⟩, h | h⟩
    · rw [hJ] at h
      obtain ⟨hi2, b2⟩ := h
      have e := run_endLoop (P := P) b2.1 (by rw [hL]; simp)
      exact ⟨none, _, by rw [hL] at e; exact e, hdone _ _ (Nat.le_refl _) (hI.putObj _ hi2 (by omega) b2.1 rfl) ((World.putObj_heap_other (by omega)).trans b2.2)⟩
    · obtain ⟨r, hr, hs⟩ := h
      rw [hJx] at hs
      obtain ⟨c, hx2, b2⟩ := hs
      have e := run_endLoop (P := P) b2.1 (by rw [hL]; simp)
      exact ⟨some c, _, by rw [hL] at e; exact e, hstop _ c r _ (Nat.le_refl _) hr ((hIx c).putObj _ hx2 (by omega) b2.1 rfl) ((World.putObj_heap_other (by omega)).trans b2.2)⟩
end

/-! bitmap.Each, number by number. -/
def encN (L : List Nat) (r : Nat) : Array Value := #[.int .i64 ((L.getD r 0 : Nat) : Int)]
theorem plB_at (X : Nat → Nat) {j k r : Nat} (hj : j < k) (hr : r < (places (X j)).length) : (placesB X (64 * k)).getD ((placesB X (64 * j)).length + r) 0 = 64 * j + plc (X j) r % 64 := by
  obtain ⟨t, ht⟩ := placesB_prefix X (show 64 * (j + 1) ≤ 64 * k by omega)
  rw [← ht, placesB_word]
  unfold plc
  simp [List.getD, List.getElem?_append, hr]
  rw [if_neg (by omega)]
  rfl
theorem plB_len (X : Nat → Nat) {j k : Nat} (hj : j < k) : (placesB X (64 * j)).length + (places (X j)).length ≤ (placesB X (64 * k)).length := by
  obtain ⟨t, ht⟩ := placesB_prefix X (show 64 * (j + 1) ≤ 64 * k by omega)
  have := congrArg List.length ht
  rw [placesB_word, List.length_append, List.length_append, List.length_map] at this
  omega
theorem plB_next (X : Nat → Nat) (j : Nat) : (placesB X (64 * (j + 1))).length = (placesB X (64 * j)).length + (places (X j)).length := by rw [placesB_word, List.length_append, List.length_map]
theorem plB_lt (X : Nat → Nat) (j : Nat) : (placesB X (64 * j)).length ≤ 64 * j := by have := List.length_filter_le (bitAt X) (List.range (64 * j)); rw [List.length_range] at this; exact this

set_option maxRecDepth 100000 in
set_option maxHeartbeats 2000000 in
theorem each1B_t (Safe : Nat → World → Prop) (n : Nat) (hn : 1 ≤ n) (l Bl n0 B g k cap : Nat) (ao : Option Addr) (cur : Array Value) (t : TypeId) (X : Nat → Nat) (hk : k ≤ 17592186044416) (h0 : 0 < n0) (J Jx : Nat → World → Prop) (W : World) (hn0 : n0 ≤ W.heap.size) (hB : B ≤ W.heap.size)
    (hJ : OwnFrom W.heap.size J) (hJx : OwnFrom W.heap.size Jx) (hSo : OwnFrom W.heap.size Safe) (hSn : ∀ r A, J r A → (∀ o, Safe A.heap.size (A.alloc o)) ∧ Safe g A)
    (hY : ∀ r W1, J r W1 → r < (placesB X (64 * k)).length → YieldAt Fence.wide (n - 1) Tryd.prog l (encN (placesB X (64 * k)) r) W1 fun e W' =>
      (e = .returned (.bool true) ∧ J (r + 1) W' ∧ HeldS Safe n0 B g W1 W') ∨ (e = .returned (.bool false) ∧ Jx (r + 1) W' ∧ HeldS Safe n0 B g W1 W'))
    (hT : Tab W) (al : At W Bl #[.slice ao k cap] 32) (hX : ∀ j, j < k → X j < 18446744073709551616 ∧ ao = some ⟨g, 0, none⟩ ∧ cur[j]? = some (.int .u64 ((X j : Nat) : Int))) (ag : At W g cur t) (hJ0 : J 0 W) :
    CallsIn Fence.wide n Tryd.prog 55 #[.func (.yield l) #[] #[], .pointer (some ⟨Bl, 0, none⟩)] W fun e W' => (∃ v, e = .returned v) ∧
      (J (placesB X (64 * k)).length W' ∨ ∃ r, r ≤ (placesB X (64 * k)).length ∧ Jx r W') := by
  have cl := (al.alloc (.cells #[.func (.yield l) #[] #[]] 68)).cell 0
  simp only [List.getElem?_toArray, List.getElem?_cons_zero] at cl
  have ay := At.new W #[.func (.yield l) #[] #[]] 68
  have ag1 := ag.alloc (.cells #[.func (.yield l) #[] #[]] 68)
  have hT1 : Tab (W.alloc (.cells #[.func (.yield l) #[] #[]] 68)) := hT.below ((Below.refl n0 W).alloc hn0 _) h0
  have hJ1 := hJ.alloc (.cells #[.func (.yield l) #[] #[]] 68) hJ0
  have sy1 := (hSn _ _ hJ0).1 (.cells #[.func (.yield l) #[] #[]] 68)
  have sg1 := hSo.alloc (.cells #[.func (.yield l) #[] #[]] 68) (hSn _ _ hJ0).2
  refine callsIn_of_wp_marks Tryd.func55 rfl trivial ?_ rfl
  simp only [Tryd.ntmps55, List.size_toArray, List.length_cons, List.length_nil, Nat.reduceAdd, Nat.reduceSub, Array.replicate_succ, Array.replicate_zero, List.push_toArray, List.append_toArray, List.nil_append, List.cons_append]
  gi_wp2
  have hz : (W.alloc (.cells #[.func (.yield l) #[] #[]] 68)).heap.size = W.heap.size + 1 := by simp
  have hzh := hz
  generalize W.alloc (.cells #[.func (.yield l) #[] #[]] 68) = W1 at *
  refine wpIn_loop (fun a Wi => ∃ (j : Nat) (ds : List Deferred) (u3 u4 u9 u10 u11 u12 u13 u14 u23 : Value), a = { tmps := #[.func (.yield l) #[] #[], .pointer (some ⟨Bl, 0, none⟩), .pointer (some ⟨W.heap.size, 0, none⟩), u3, u4, undef, .slice ao k cap, .int .i64 (k : Int), .int .i64 (j : Int), u9, u10, u11, u12, u13, u14, undef, undef, undef, undef, undef, undef, undef, undef, u23], defers := ds } ∧
      j ≤ k ∧ J (placesB X (64 * j)).length Wi ∧ At Wi W.heap.size #[.func (.yield l) #[] #[]] 68 ∧ At Wi g cur t ∧ Tab Wi ∧ W.heap.size + 1 ≤ Wi.heap.size ∧ Marks W.heap.size Wi.heap.size ds Wi ∧ Safe W.heap.size Wi ∧ Safe g Wi) (fun a _ => k - (intOf (a.tmps.getD 8 undef)).toNat) ?_ ?_
  · exact ⟨0, [], undef, undef, undef, undef, undef, undef, undef, undef, undef, rfl, Nat.zero_le _, hJ1, ay, ag1, hT1, by omega, trivial, sy1, sg1⟩
  rintro a Wi ⟨j, ds, u3, u4, u9, u10, u11, u12, u13, u14, u23, rfl, hj, hJi, ayi, agi, hTi, hzi, hmi, syi, sgi⟩
  by_cases hlt : j < k
  · obtain ⟨hx, rfl, hcu⟩ := hX j hlt
    obtain ⟨x, hx'⟩ : ∃ x, Hid (X j = x) := ⟨_, rfl⟩
    rw [hx'.out] at hx hcu
    have d1 := agi.cell j
    rw [hcu] at d1
    clear hcu
    gi_wp2_with fail
    refine ⟨trivial, ?_⟩
    refine (callsIn_wide.2 (each_calls x _)).mono ?_
    rintro e w1 ⟨rfl, hw1⟩
    have aj : At w1 Wi.heap.size #[.int .i64 (j : Int)] 3 := by rw [hw1]; exact (At.new Wi _ _).alloc _
    have ax : At w1 (Wi.heap.size + 1) #[.int .u64 (x : Int)] 22 := by
      have h := At.new (Wi.alloc (.cells #[.int .i64 (j : Int)] 3)) #[.int .u64 (x : Int)] 22
      rw [hw1]; simpa using h
    have sjw : Safe Wi.heap.size w1 := by rw [hw1]; exact hSo.alloc _ ((hSn _ _ hJi).1 _)
    have syw : Safe W.heap.size w1 := by rw [hw1]; exact hSo.alloc _ (hSo.alloc _ syi)
    have sgw : Safe g w1 := by rw [hw1]; exact hSo.alloc _ (hSo.alloc _ sgi)
    have hbw : Below Wi.heap.size Wi w1 := by rw [hw1]; repeat (first | with_reducible exact Below.refl _ _ | with_reducible refine Below.setCell ?_ (by first | (simp; done) | (simp; omega)) _ | with_reducible refine below_drewN ?_ _ | with_reducible refine Below.alloc ?_ (by first | (simp; done) | (simp; omega)) _ | with_reducible refine Below.drew ?_)
    have ayw := ayi.keptAll hbw
    have agw := agi.keptAll hbw
    have hzw : w1.heap.size = Wi.heap.size + 1 + 1 := by rw [hw1]; simp
    have hJw : J (placesB X (64 * j)).length w1 := by rw [hw1]; exact hJ.alloc _ (hJ.alloc _ hJi)
    have hTw : Tab w1 := hTi.below hbw (by omega)
    have hmw : Marks W.heap.size Wi.heap.size ds w1 := hmi.below hbw (Nat.le_refl _)
    clear hw1
    have hnx : Hid ((placesB X (64 * (j + 1))).length = (placesB X (64 * j)).length + (places x).length) := by show _ = _; rw [plB_next, hx'.out]
    have hcs : Hid ((placesB X (64 * j)).length + (places x).length ≤ (placesB X (64 * k)).length) := by have := plB_len X hlt; rw [hx'.out] at this; exact this
    gi_wp2_with fail
    refine range_tell (n := n) hn (gf := 38) (lb := #[.pointer (some ⟨Wi.heap.size + 1, 0, none⟩)]) rfl (enters_of Tryd.func38 (by kernel_rfl) rfl)
      (each_tell (n - 1) (Wi.heap.size + 1) x hx w1 (by omega) hTw ax) (Below.refl _ _) (fun _ => rfl) KeepTab.trans (keepTab_b (by omega))
      (fun r Wz => J ((placesB X (64 * j)).length + r) Wz ∧ At Wz W.heap.size #[.func (.yield l) #[] #[]] 68 ∧ At Wz Wi.heap.size #[.int .i64 (j : Int)] 3 ∧ At Wz g cur t ∧ Tab Wz ∧ w1.heap.size ≤ Wz.heap.size ∧ Marks W.heap.size Wi.heap.size ds Wz ∧ Safe W.heap.size Wz ∧ Safe Wi.heap.size Wz ∧ Safe g Wz)
      (fun c r Wz => c = .ret ∧ Jx ((placesB X (64 * j)).length + r) Wz ∧ Marks W.heap.size Wi.heap.size ds Wz)
      (fun s Y Z row ⟨h1, h2, h3, h4, h5, h6, h7, h8, h9, h10⟩ hg hr => ⟨hJ _ Y Z row h1 hg (fun r e => ⟨by have := (hr r e).1; omega, (hr r e).2⟩), h2.own hg (fun r e => (hr r e).2), h3.own hg (fun r e => (hr r e).2), h4.own hg (fun r e => (hr r e).2),
        fun j hj => (World.cell?_of_block (w := Y) (hg.block 0 (by omega) (fun e => by have := (hr 0 e.symm).1; omega))).trans (h5 j hj), Nat.le_trans h6 hg.size, h7.own hg (fun r e => by have := (hr r e).1; omega), hSo _ Y Z row h8 hg (fun r e => ⟨by have := (hr r e).1; omega, (hr r e).2⟩), hSo _ Y Z row h9 hg (fun r e => ⟨by have := (hr r e).1; omega, (hr r e).2⟩), hSo _ Y Z row h10 hg (fun r e => ⟨by have := (hr r e).1; omega, (hr r e).2⟩)⟩)
      (fun c s Y Z row ⟨h1, h2, h3⟩ hg hr => ⟨h1, hJx _ Y Z row h2 hg (fun r e => ⟨by have := (hr r e).1; omega, (hr r e).2⟩), h3.own hg (fun r e => by have := (hr r e).1; omega)⟩)
      ⟨hJw, ayw, aj, agw, hTw, Nat.le_refl _, hmw, syw, sjw, sgw⟩
      (fun r a' _ => ∃ q : Nat, Hid (q = plc x r % 64) ∧ a' = { tmps := #[.func (.yield l) #[] #[], .pointer (some ⟨Bl, 0, none⟩), .pointer (some ⟨W.heap.size, 0, none⟩), .pointer (some ⟨Wi.heap.size, 0, none⟩), .int .u64 (x : Int), .int .i64 (q : Int), .slice (some ⟨g, 0, none⟩) k cap, .int .i64 (k : Int), .int .i64 (j : Int), .bool true, .int .i64 (j : Int), .pointer (some ⟨g, j, none⟩), .int .u64 (x : Int), .int .u64 (x : Int), .func (.func 38) #[] #[.pointer (some ⟨Wi.heap.size + 1, 0, none⟩)], .int .i64 (q : Int), undef, undef, undef, undef, undef, undef, undef, u23], defers := [] })
      (fun _ _ _ _ _ _ hs _ _ => hs) ?assign ?body ?done ?stop
    case assign =>
      intro l2 r Wz K hr hI hK
      obtain ⟨q, hq⟩ : ∃ q, Hid (q = plc x r % 64) := ⟨_, rfl⟩
      rw [encP, encE, ← hq.out]
      have hK' := fun a' => hK a' Wz (KeepsFrom.refl _ _) (fun h => h) hI
      clear hK
      gi_wp2
      exact ⟨q, hq, rfl⟩
    case body =>
      rintro l2 r a' Wz hll ⟨rec, hrec⟩ hltp ⟨hJz, ayz, ajz, agz, hTz, hzz, hmz, syz, sjz, sgz⟩ ⟨q, hq, rfl⟩
      have hq64 : q < 64 := by rw [hq.out]; exact Nat.mod_lt _ (by decide)
      have cy := ayz.cell 0
      have cj := ajz.cell 0
      simp only [List.getElem?_toArray, List.getElem?_cons_zero] at cy cj
      obtain ⟨fn, tmps, assign, body, hy, hRd⟩ := hY _ Wz hJz (by have := hcs.out; omega)
      have hv : (placesB X (64 * k)).getD ((placesB X (64 * j)).length + r) 0 = 64 * j + q := by rw [plB_at X hlt (by rw [hx'.out]; exact hltp), hx'.out, hq.out]
      rw [show encN (placesB X (64 * k)) ((placesB X (64 * j)).length + r) = #[.int .i64 (64 * (j : Int) + (q : Int))] by rw [encN, hv]; simp] at hy
      have hle : Hid ((placesB X (64 * j)).length + r + 1 ≤ (placesB X (64 * k)).length) := by have := hcs.out; show _ ≤ _; omega
      have ew : IntKind.i64.wrap (64 * (j : Int)) = 64 * (j : Int) := by rw [IntKind.wrap_i64]; omega
      clear hY hltp hv
      gi_wp2_with fail
      refine ⟨(fun h => by cases h), ?_⟩
      refine (RoundIn.inRound l2 (roundIn_any hRd)).mono ?_
      rintro e W3 (⟨rfl, hJ3, hk3⟩ | ⟨rfl, hJx3, hk3⟩)
      · obtain ⟨a2, s2⟩ := hk3.2.2.2 _ _ _ (.inl hB) syz ayz
        obtain ⟨a3, s3⟩ := hk3.2.2.2 _ _ _ (.inl (by omega)) sjz ajz
        obtain ⟨a4, s4⟩ := hk3.2.2.2 _ _ _ (.inr rfl) sgz agz
        have hT3 := hTz.below hk3.1 h0
        have hs3 : w1.heap.size ≤ W3.heap.size := Nat.le_trans hzz hk3.2.1
        have hm3 := hmz.heldS hk3 hB
        have kf : KeepsFrom w1.heap.size Wz W3 := hk3.from (by omega)
        have hkt := KeepTab.of_below hk3.1 h0
        clear hy hRd hJz hrec hk3
        gi_wp2
        exact ⟨kf, hkt, hJ3, a2, a3, a4, hT3, hs3, hm3, s2, s3, s4⟩
      · have kf : KeepsFrom w1.heap.size Wz W3 := hk3.from (by omega)
        have hm3 := hmz.heldS hk3 hB
        clear hy hRd hJz hrec hk3
        gi_wp2
        exact ⟨kf, rfl, hJx3, hm3⟩
    case done =>
      rintro D Wz hD ⟨hJz, ayz, ajz, agz, hTz, hzz, hmz, syz, -, sgz⟩ hK
      have hDl := (Array.getElem?_eq_some_iff.1 hK).1
      have hJn : J (placesB X (64 * (j + 1))).length Wz := by rw [hnx.out]; exact hJz
      have hmn : Marks W.heap.size Wz.heap.size ({ target := .collected D, args := #[] } :: ds) Wz := ⟨D, rfl, by omega, hDl, hK, hmz.up (by omega)⟩
      clear hY hJz hmz
      gi_wp2
      refine ⟨⟨j + 1, _, _, _, _, _, _, _, _, _, _, by rw [show (((j + 1 : Nat)) : Int) = (j : Int) + 1 by simp], by omega, hJn, ayz, agz, hTz, by omega, hmn, syz, sgz⟩, ?_⟩
      simp [intOf]; omega
    case stop =>
      rintro D c r Wz hD hr ⟨rfl, hX', hmz⟩ hK
      have hmn : Marks W.heap.size (D + 1) ({ target := .collected D, args := #[] } :: ds) Wz := ⟨D, rfl, by omega, by omega, hK, hmz.up (by omega)⟩
      have hrl : Hid ((placesB X (64 * j)).length + r ≤ (placesB X (64 * k)).length) := by have := hcs.out; show _ ≤ _; omega
      clear hY
      gi_wp2
      exact leaves_marks (s := (placesB X (64 * j)).length + r) hJx (fun W' hj => ⟨_, results_none rfl _ _ _, ⟨_, rfl⟩, .inr ⟨_, hrl.out, hj⟩⟩) _ _ _ hmn hX'
  · obtain rfl : j = k := by omega
    clear hY
    gi_wp2
    exact leaves_marks (s := (placesB X (64 * j)).length) hJ (fun W' hj => ⟨_, results_none rfl _ _ _, ⟨_, rfl⟩, .inl hj⟩) _ _ _ hmi hJi
theorem seqB_tellG (Safe : Nat → World → Prop) (n : Nat) (hn : 1 ≤ n) (Bl g n0 : Nat) (L : List Nat) (w : World) (h : SeqB w Bl g L) (hT : Tab w) (h0 : 0 < n0) (hn0 : n0 ≤ w.heap.size) (hSo : ∀ m, OwnFrom m Safe) :
    SeqTellG (fun A => (∀ o, Safe A.heap.size (A.alloc o)) ∧ Safe g A) n Tryd.prog 55 #[.pointer (some ⟨Bl, 0, none⟩)] (encN L) (fun b => HeldS Safe n0 b g) L.length w := by
  obtain ⟨ao, k, cap, cur, t, Y, h1, h2, h3, rfl, h5⟩ := h
  exact fun l J Jx W hW hJ hJx hGd hY hJ0 => each1B_t Safe n hn l Bl n0 W.heap.size g k cap ao cur t Y h3 h0 J Jx W (Nat.le_trans hn0 hW.size) (Nat.le_refl _) hJ hJx (hSo _) hGd hY (hT.below hW (by omega)) (h1.keptAll hW) h5 (h2.keptAll hW) hJ0
end Go.Proofs.YthhgojdnpkcaaaaDoor
