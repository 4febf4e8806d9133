/-
  The walk of quarrylaw07.QuotesKeeps.
-/
import Derived.Test.YtmjmcdoanolelabDoorQuoAwake
import Derived.Test.YtmjmcdoanolelabDoorRowVar
import Derived.Test.YtmjmcdoanolelabDoorApartRows
import Derived.Test.YtmjmcdoanolelabDoorApartKit5
import Derived.Test.YtmjmcdoanolelabDoorCopyBits
import Derived.SizedLaws
namespace Go.Proofs.YtmjmcdoanolelabDoor
open Go.RowKit Go.Shelf

theorem own_apart7 {B base n : Nat} {rs : List RowX} {A W : World} {v : Value} {L : List Value} (h : A.ownsRow base 33 1 v n L) (hA : ApartK B rs A W) (hr : ∀ (k : Nat) (x : RowX) (g : Nat), rs[k]? = some x → x.g = some g → g < base) : W.ownsRow base 33 1 v n L := by
  refine ⟨h.1, ?_⟩
  rcases h.2 with h2 | ⟨g, cap, cur, rfl, hb, hgb, h3⟩
  · exact .inl h2
  · exact .inr ⟨g, cap, cur, rfl, hb, hA.2 g cur _ hgb (fun k x hk e => by have := hr k x g hk e; omega), h3⟩
theorem rows6 {W : World} {B : Nat} {s t : ByteArray} {ga gb gc gd ge gf : Nat} (h0 : B ≤ ga) (h1 : ga < gb) (h2 : gb < gc) (h3 : gc < gd) (h4 : gd < ge) (h5 : ge < gf) (Aa : At W ga (rowCells (need s.size) (rowOf (markS s) s.size)) 33) (Ab : At W gb (rowCells (need s.size) (rowOf (inS s) s.size)) 33) (Ac : At W gc (rowCells (need t.size) (rowOf (markS t) t.size)) 33) (Ad : At W gd (rowCells (need t.size) (rowOf (inS t) t.size)) 33) (Ae : At W ge (rowCells (need s.size) (rowOf (markS s) s.size)) 33) (Af : At W gf (rowCells (need s.size) (rowOf (inS s) s.size)) 33) :
    RowsX W B [⟨some ga, need s.size⟩, ⟨some gb, need s.size⟩, ⟨some gc, need t.size⟩, ⟨some gd, need t.size⟩, ⟨some ge, need s.size⟩, ⟨some gf, need s.size⟩] (fun k => if k = 0 then rowOf (markS s) s.size else if k = 1 then rowOf (inS s) s.size else if k = 2 then rowOf (markS t) t.size else if k = 3 then rowOf (inS t) t.size else if k = 4 then rowOf (markS s) s.size else rowOf (inS s) s.size) := by
  refine ⟨fun k x hk => ?_, fun k l x y g hk hl hx hy => ?_⟩
  · match k, hk with
    | 0, hk => simp at hk; subst hk; exact ⟨(fun e => by cases e), fun g e => by cases e; exact ⟨by omega, Aa⟩⟩
    | 1, hk => simp at hk; subst hk; exact ⟨(fun e => by cases e), fun g e => by cases e; exact ⟨by omega, Ab⟩⟩
    | 2, hk => simp at hk; subst hk; exact ⟨(fun e => by cases e), fun g e => by cases e; exact ⟨by omega, Ac⟩⟩
    | 3, hk => simp at hk; subst hk; exact ⟨(fun e => by cases e), fun g e => by cases e; exact ⟨by omega, Ad⟩⟩
    | 4, hk => simp at hk; subst hk; exact ⟨(fun e => by cases e), fun g e => by cases e; exact ⟨by omega, Ae⟩⟩
    | 5, hk => simp at hk; subst hk; exact ⟨(fun e => by cases e), fun g e => by cases e; exact ⟨by omega, Af⟩⟩
    | k + 6, hk => simp at hk
  · have key : ∀ (k : Nat) (x : RowX), ([⟨some ga, need s.size⟩, ⟨some gb, need s.size⟩, ⟨some gc, need t.size⟩, ⟨some gd, need t.size⟩, ⟨some ge, need s.size⟩, ⟨some gf, need s.size⟩] : List RowX)[k]? = some x → (k = 0 ∧ x.g = some ga) ∨ (k = 1 ∧ x.g = some gb) ∨ (k = 2 ∧ x.g = some gc) ∨ (k = 3 ∧ x.g = some gd) ∨ (k = 4 ∧ x.g = some ge) ∨ (k = 5 ∧ x.g = some gf) := by
      intro k x hk
      match k, hk with
      | 0, hk => simp at hk; subst hk; simp
      | 1, hk => simp at hk; subst hk; simp
      | 2, hk => simp at hk; subst hk; simp
      | 3, hk => simp at hk; subst hk; simp
      | 4, hk => simp at hk; subst hk; simp
      | 5, hk => simp at hk; subst hk; simp
      | k + 6, hk => simp at hk
    have ka := key k x hk
    have la := key l y hl
    rw [hx] at ka
    rw [hy] at la
    simp only [Option.some.injEq] at ka la
    omega

theorem fill_two7 (cs : List Value) (i : Nat) (a b : Value) (rest : List (Nat × Value)) (h : i * 2 + 2 ≤ cs.length) :
    Instr.fill (fun i => some (i * 2, 2)) cs.toArray ((i, .agg #[a, b]) :: rest) = Instr.fill (fun i => some (i * 2, 2)) ((cs.set (i * 2) a).set (i * 2 + 1) b).toArray rest := by
  rw [Instr.fill]
  have h1 : ¬ cs.length < i * 2 + 2 := by omega
  simp [Value.cells, h1]
theorem fill6 (a0 b0 a1 b1 a2 b2 a3 b3 a4 b4 a5 b5 : Value) : Instr.fill (fun i => some (i * 2, 2)) #[.int .i64 0, .slice none 0 0, .int .i64 0, .slice none 0 0, .int .i64 0, .slice none 0 0, .int .i64 0, .slice none 0 0, .int .i64 0, .slice none 0 0, .int .i64 0, .slice none 0 0] [(0, .agg #[a0, b0]), (1, .agg #[a1, b1]), (2, .agg #[a2, b2]), (3, .agg #[a3, b3]), (4, .agg #[a4, b4]), (5, .agg #[a5, b5])] = some #[a0, b0, a1, b1, a2, b2, a3, b3, a4, b4, a5, b5] := by
  rw [fill_two7 _ 0 a0 b0 _ (by simp)]
  simp only [Nat.reduceMul, Nat.reduceAdd, List.set_cons_zero, List.set_cons_succ]
  rw [fill_two7 _ 1 a1 b1 _ (by simp)]
  simp only [Nat.reduceMul, Nat.reduceAdd, List.set_cons_zero, List.set_cons_succ]
  rw [fill_two7 _ 2 a2 b2 _ (by simp)]
  simp only [Nat.reduceMul, Nat.reduceAdd, List.set_cons_zero, List.set_cons_succ]
  rw [fill_two7 _ 3 a3 b3 _ (by simp)]
  simp only [Nat.reduceMul, Nat.reduceAdd, List.set_cons_zero, List.set_cons_succ]
  rw [fill_two7 _ 4 a4 b4 _ (by simp)]
  simp only [Nat.reduceMul, Nat.reduceAdd, List.set_cons_zero, List.set_cons_succ]
  rw [fill_two7 _ 5 a5 b5 _ (by simp)]
  simp only [Nat.reduceMul, Nat.reduceAdd, List.set_cons_zero, List.set_cons_succ]
  rfl
theorem zeros6 : (Array.range (6 * 2)).map (fun i => (#[Value.int .i64 0, Value.slice none 0 0] : Array Value)[i % 2]!) = #[.int .i64 0, .slice none 0 0, .int .i64 0, .slice none 0 0, .int .i64 0, .slice none 0 0, .int .i64 0, .slice none 0 0, .int .i64 0, .slice none 0 0, .int .i64 0, .slice none 0 0] := by
  apply Array.ext'
  rw [Array.toList_map, Array.toList_range]
  rfl
set_option maxRecDepth 10000 in
theorem run_build6 (a0 b0 a1 b1 a2 b2 a3 b3 a4 b4 a5 b5 : Value) (w : World) : Sem.run Tryd.prog (Instr.buildSlice 31 6 #[(0, .agg #[a0, b0]), (1, .agg #[a1, b1]), (2, .agg #[a2, b2]), (3, .agg #[a3, b3]), (4, .agg #[a4, b4]), (5, .agg #[a5, b5])]) w = .ok (.slice (some ⟨w.heap.size, 0, none⟩) 6 6) (w.alloc (.cells #[a0, b0, a1, b1, a2, b2, a3, b3, a4, b4, a5, b5] 25)) := by
  have hz : ∀ w, (zeroValue 25).run Tryd.prog w = .ok (.agg #[.int .i64 0, .slice none 0 0]) w := fun w => by kernel_rfl
  have hs : ∀ w, (sizeOf 25).run Tryd.prog w = .ok 2 w := fun w => by kernel_rfl
  have hf := fill6 a0 b0 a1 b1 a2 b2 a3 b3 a4 b4 a5 b5
  rw [← zeros6] at hf
  unfold Instr.buildSlice
  simp only [Sem.run_bind, run_underlying Tryd.underlying31, Result.andThen_ok, hs]
  rw [if_neg (by decide), if_neg (by decide)]
  simp only [Sem.run_bind, hz, Result.andThen_ok, Sem.run_pure, Value.cells]
  have e : (Array.range (6 * 2)).map (fun x => (#[Value.int .i64 0, Value.slice none 0 0] : Array Value)[x % (#[Value.int .i64 0, Value.slice none 0 0] : Array Value).size]!) = (Array.range (6 * 2)).map (fun i => (#[Value.int .i64 0, Value.slice none 0 0] : Array Value)[i % 2]!) := rfl
  rw [e, hf]
  rfl

set_option maxRecDepth 10000 in
set_option maxHeartbeats 8000000 in
theorem quotesKeeps_walk (s : ByteArray) (hs : s.size ≤ reachBytes) (t : ByteArray) (ht : t.size ≤ reachBytes) (w : World) (hT : Tab w) (h0 : 0 < w.heap.size) :
    Calls Tryd.prog 3 #[.string s, .string t] w fun e w' => e = .returned (.bool true) ∧ Below w.heap.size w w' := by
  have hs1 : s.size ≤ 140737488351232 := hs
  have ht1 : t.size ≤ 140737488351232 := ht
  have hT' := hid hT
  have h0' := hid h0
  clear hs ht hT h0
  obtain ⟨Ct, hCt0, -, -⟩ := ctl_ex s
  have hCt := hid hCt0
  clear hCt0
  go_enter Tryd.func3, Tryd.ntmps3
  go_wp2_with fail
  refine Calls.mono (awake7_calls w hT'.out h0'.out) ?_
  rintro e x0 ⟨rfl, hb0⟩
  have B0 := hid hb0
  have hB0z := hid hb0.size
  clear hb0
  go_wp2_with fail
  refine Calls.mono (marksQ_calls s (by omega) x0 (hT'.out.below B0.out h0'.out) (Nat.lt_of_lt_of_le h0'.out B0.out.size)) ?_
  rintro e x1 ⟨ga, loa, rfl, hA, hb⟩
  have loa' := hid loa
  have upa := hid hA.lt
  have hA1 := hid hA
  have B1 := hid (B0.out.trans (hb.mono B0.out.size))
  have y1 := hid hb.size
  clear hA hb loa B0
  go_wp2_with fail
  refine Calls.mono (insideQ_calls s (by omega) x1 (hT'.out.below B1.out h0'.out) (Nat.lt_of_lt_of_le h0'.out B1.out.size)) ?_
  rintro e x2 ⟨gb, lob, rfl, hA, hb⟩
  have lob' := hid lob
  have upb := hid hA.lt
  replace hA1 := hid (hA1.out.keptAll hb)
  have B2 := hid (B1.out.trans (hb.mono B1.out.size))
  have y2 := hid hb.size
  have ra := hid ((RV.of x2 ga s.size (markS s) hA1.out).alloc (.cells #[.int .i64 (s.size : Int), .slice (some ⟨gb, 0, none⟩) (need s.size) (need s.size)] 25))
  have rb0 := RV.of (x2.alloc (.cells #[.int .i64 (s.size : Int), .slice (some ⟨ga, 0, none⟩) (need s.size) (need s.size)] 25)) gb s.size (inS s) (hA.alloc _)
  rw [World.size_alloc] at rb0
  have rb := hid rb0
  clear rb0
  have BB := hid ((B2.out.alloc B2.out.size (.cells #[.int .i64 (s.size : Int), .slice (some ⟨ga, 0, none⟩) (need s.size) (need s.size)] 25)).alloc (by simp; have := B2.out.size; omega) (.cells #[.int .i64 (s.size : Int), .slice (some ⟨gb, 0, none⟩) (need s.size) (need s.size)] 25))
  clear hA hb hA1 lob B1 B2
  go_wp2_with fail
  obtain ⟨u0, hu0⟩ : ∃ u, (x2.alloc (.cells #[.int .i64 (s.size : Int), .slice (some ⟨ga, 0, none⟩) (need s.size) (need s.size)] 25)).alloc (.cells #[.int .i64 (s.size : Int), .slice (some ⟨gb, 0, none⟩) (need s.size) (need s.size)] 25) = u := ⟨_, rfl⟩
  have zu0 : Hid (x2.heap.size + 2 = u0.heap.size) := by show _ = _; rw [← hu0]; simp
  rw [hu0] at ra rb BB
  rw [hu0]
  obtain ⟨pa, hpa⟩ : ∃ q, x2.heap.size = q := ⟨_, rfl⟩
  obtain ⟨pb, hpb⟩ : ∃ q, x2.heap.size + 1 = q := ⟨_, rfl⟩
  rw [hpa] at ra
  rw [hpb] at rb
  rw [hpb, hpa]
  have hqa := hid hpa
  have hqb := hid hpb
  clear hpa hpb hu0
  have B2 := BB
  clear BB
  refine Calls.mono (marksQ_calls t (by omega) u0 (hT'.out.below B2.out h0'.out) (Nat.lt_of_lt_of_le h0'.out B2.out.size)) ?_
  rintro e x3 ⟨gc, loc, rfl, hA, hb⟩
  replace ra := hid (ra.out.kept hb)
  replace rb := hid (rb.out.kept hb)
  have loc' := hid loc
  have upc := hid hA.lt
  have hA1 := hid hA
  have B3 := hid (B2.out.trans (hb.mono B2.out.size))
  have y3 := hid hb.size
  clear hA hb loc B2
  go_wp2_with fail
  refine Calls.mono (insideQ_calls t (by omega) x3 (hT'.out.below B3.out h0'.out) (Nat.lt_of_lt_of_le h0'.out B3.out.size)) ?_
  rintro e x4 ⟨gd, lod, rfl, hA, hb⟩
  replace ra := hid (ra.out.kept hb)
  replace rb := hid (rb.out.kept hb)
  have lod' := hid lod
  have upd := hid hA.lt
  replace hA1 := hid (hA1.out.keptAll hb)
  have B4 := hid (B3.out.trans (hb.mono B3.out.size))
  have y4 := hid hb.size
  replace ra := hid ((ra.out.alloc (.cells #[.int .i64 (t.size : Int), .slice (some ⟨gc, 0, none⟩) (need t.size) (need t.size)] 25)).alloc (.cells #[.int .i64 (t.size : Int), .slice (some ⟨gd, 0, none⟩) (need t.size) (need t.size)] 25))
  replace rb := hid ((rb.out.alloc (.cells #[.int .i64 (t.size : Int), .slice (some ⟨gc, 0, none⟩) (need t.size) (need t.size)] 25)).alloc (.cells #[.int .i64 (t.size : Int), .slice (some ⟨gd, 0, none⟩) (need t.size) (need t.size)] 25))
  have rc := hid ((RV.of x4 gc t.size (markS t) hA1.out).alloc (.cells #[.int .i64 (t.size : Int), .slice (some ⟨gd, 0, none⟩) (need t.size) (need t.size)] 25))
  have rd0 := RV.of (x4.alloc (.cells #[.int .i64 (t.size : Int), .slice (some ⟨gc, 0, none⟩) (need t.size) (need t.size)] 25)) gd t.size (inS t) (hA.alloc _)
  rw [World.size_alloc] at rd0
  have rd := hid rd0
  clear rd0
  have BB := hid ((B4.out.alloc B4.out.size (.cells #[.int .i64 (t.size : Int), .slice (some ⟨gc, 0, none⟩) (need t.size) (need t.size)] 25)).alloc (by simp; have := B4.out.size; omega) (.cells #[.int .i64 (t.size : Int), .slice (some ⟨gd, 0, none⟩) (need t.size) (need t.size)] 25))
  clear hA hb hA1 lod B3 B4
  go_wp2_with fail
  obtain ⟨u1, hu1⟩ : ∃ u, (x4.alloc (.cells #[.int .i64 (t.size : Int), .slice (some ⟨gc, 0, none⟩) (need t.size) (need t.size)] 25)).alloc (.cells #[.int .i64 (t.size : Int), .slice (some ⟨gd, 0, none⟩) (need t.size) (need t.size)] 25) = u := ⟨_, rfl⟩
  have zu1 : Hid (x4.heap.size + 2 = u1.heap.size) := by show _ = _; rw [← hu1]; simp
  rw [hu1] at ra rb rc rd BB
  rw [hu1]
  obtain ⟨pc, hpc⟩ : ∃ q, x4.heap.size = q := ⟨_, rfl⟩
  obtain ⟨pd, hpd⟩ : ∃ q, x4.heap.size + 1 = q := ⟨_, rfl⟩
  rw [hpc] at rc
  rw [hpd] at rd
  rw [hpd, hpc]
  have hqc := hid hpc
  have hqd := hid hpd
  clear hpc hpd hu1
  have B4 := BB
  clear BB
  refine Calls.mono (marksQ_calls s (by omega) u1 (hT'.out.below B4.out h0'.out) (Nat.lt_of_lt_of_le h0'.out B4.out.size)) ?_
  rintro e x5 ⟨ge, loe, rfl, hA, hb⟩
  replace ra := hid (ra.out.kept hb)
  replace rb := hid (rb.out.kept hb)
  replace rc := hid (rc.out.kept hb)
  replace rd := hid (rd.out.kept hb)
  have loe' := hid loe
  have upe := hid hA.lt
  have hA1 := hid hA
  have B5 := hid (B4.out.trans (hb.mono B4.out.size))
  have y5 := hid hb.size
  clear hA hb loe B4
  go_wp2_with fail
  refine Calls.mono (insideQ_calls s (by omega) x5 (hT'.out.below B5.out h0'.out) (Nat.lt_of_lt_of_le h0'.out B5.out.size)) ?_
  rintro e x6 ⟨gf, lof, rfl, hA, hb⟩
  replace ra := hid (ra.out.kept hb)
  replace rb := hid (rb.out.kept hb)
  replace rc := hid (rc.out.kept hb)
  replace rd := hid (rd.out.kept hb)
  have lof' := hid lof
  have upf := hid hA.lt
  replace hA1 := hid (hA1.out.keptAll hb)
  have B6 := hid (B5.out.trans (hb.mono B5.out.size))
  have y6 := hid hb.size
  replace ra := hid ((ra.out.alloc (.cells #[.int .i64 (s.size : Int), .slice (some ⟨ge, 0, none⟩) (need s.size) (need s.size)] 25)).alloc (.cells #[.int .i64 (s.size : Int), .slice (some ⟨gf, 0, none⟩) (need s.size) (need s.size)] 25))
  replace rb := hid ((rb.out.alloc (.cells #[.int .i64 (s.size : Int), .slice (some ⟨ge, 0, none⟩) (need s.size) (need s.size)] 25)).alloc (.cells #[.int .i64 (s.size : Int), .slice (some ⟨gf, 0, none⟩) (need s.size) (need s.size)] 25))
  replace rc := hid ((rc.out.alloc (.cells #[.int .i64 (s.size : Int), .slice (some ⟨ge, 0, none⟩) (need s.size) (need s.size)] 25)).alloc (.cells #[.int .i64 (s.size : Int), .slice (some ⟨gf, 0, none⟩) (need s.size) (need s.size)] 25))
  replace rd := hid ((rd.out.alloc (.cells #[.int .i64 (s.size : Int), .slice (some ⟨ge, 0, none⟩) (need s.size) (need s.size)] 25)).alloc (.cells #[.int .i64 (s.size : Int), .slice (some ⟨gf, 0, none⟩) (need s.size) (need s.size)] 25))
  have re := hid ((RV.of x6 ge s.size (markS s) hA1.out).alloc (.cells #[.int .i64 (s.size : Int), .slice (some ⟨gf, 0, none⟩) (need s.size) (need s.size)] 25))
  have rf0 := RV.of (x6.alloc (.cells #[.int .i64 (s.size : Int), .slice (some ⟨ge, 0, none⟩) (need s.size) (need s.size)] 25)) gf s.size (inS s) (hA.alloc _)
  rw [World.size_alloc] at rf0
  have rf := hid rf0
  clear rf0
  have BB := hid ((B6.out.alloc B6.out.size (.cells #[.int .i64 (s.size : Int), .slice (some ⟨ge, 0, none⟩) (need s.size) (need s.size)] 25)).alloc (by simp; have := B6.out.size; omega) (.cells #[.int .i64 (s.size : Int), .slice (some ⟨gf, 0, none⟩) (need s.size) (need s.size)] 25))
  clear hA hb hA1 lof B5 B6
  obtain ⟨ca0, ca1⟩ := ra.out.facts
  go_wp2_with fail
  clear ca0 ca1
  obtain ⟨u2, hu2⟩ : ∃ u, (x6.alloc (.cells #[.int .i64 (s.size : Int), .slice (some ⟨ge, 0, none⟩) (need s.size) (need s.size)] 25)).alloc (.cells #[.int .i64 (s.size : Int), .slice (some ⟨gf, 0, none⟩) (need s.size) (need s.size)] 25) = u := ⟨_, rfl⟩
  have zu2 : Hid (x6.heap.size + 2 = u2.heap.size) := by show _ = _; rw [← hu2]; simp
  rw [hu2] at ra rb rc rd re rf BB
  rw [hu2]
  obtain ⟨pe, hpe⟩ : ∃ q, x6.heap.size = q := ⟨_, rfl⟩
  obtain ⟨pf, hpf⟩ : ∃ q, x6.heap.size + 1 = q := ⟨_, rfl⟩
  rw [hpe] at re
  rw [hpf] at rf
  rw [hpf, hpe]
  have hqe := hid hpe
  have hqf := hid hpf
  clear hpe hpf hu2
  have B6 := BB
  clear BB
  refine Calls.mono (same6 (by omega) _ _ _ _ _ ra.out.wds re.out.wds) ?_
  rintro e x7 ⟨rfl, hb⟩
  replace ra := hid (ra.out.kept hb)
  replace rb := hid (rb.out.kept hb)
  replace rc := hid (rc.out.kept hb)
  replace rd := hid (rd.out.kept hb)
  replace re := hid (re.out.kept hb)
  replace rf := hid (rf.out.kept hb)
  have B7 := hid (B6.out.trans (hb.mono B6.out.size))
  have y7 := hid hb.size
  clear hb B6
  obtain ⟨cb0, cb1⟩ := rb.out.facts
  obtain ⟨cf0, cf1⟩ := rf.out.facts
  go_wp2_with fail
  clear cb0 cb1 cf0 cf1
  refine Calls.mono (same6 (by omega) _ _ _ _ _ rb.out.wds rf.out.wds) ?_
  rintro e x8 ⟨rfl, hb⟩
  replace ra := hid (ra.out.kept hb)
  replace rb := hid (rb.out.kept hb)
  replace rc := hid (rc.out.kept hb)
  replace rd := hid (rd.out.kept hb)
  replace re := hid (re.out.kept hb)
  replace rf := hid (rf.out.kept hb)
  have B8 := hid (B7.out.trans (hb.mono B7.out.size))
  have y8 := hid hb.size
  clear hb B7
  go_wp2_with fail
  refine Calls.mono (controlQ_calls s (by omega) Ct hCt _ (hT'.out.below B8.out h0'.out) (Nat.lt_of_lt_of_le h0'.out B8.out.size)) ?_
  rintro e x9 ⟨rfl, hb⟩
  replace ra := hid (ra.out.kept hb)
  replace rb := hid (rb.out.kept hb)
  replace rc := hid (rc.out.kept hb)
  replace rd := hid (rd.out.kept hb)
  replace re := hid (re.out.kept hb)
  replace rf := hid (rf.out.kept hb)
  have B9 := hid (B8.out.trans (hb.mono B8.out.size))
  have y9 := hid hb.size
  clear hb B8
  go_wp2_with fail
  refine Calls.mono (controlQ_calls s (by omega) Ct hCt _ (hT'.out.below B9.out h0'.out) (Nat.lt_of_lt_of_le h0'.out B9.out.size)) ?_
  rintro e x10 ⟨rfl, hb⟩
  replace ra := hid (ra.out.kept hb)
  replace rb := hid (rb.out.kept hb)
  replace rc := hid (rc.out.kept hb)
  replace rd := hid (rd.out.kept hb)
  replace re := hid (re.out.kept hb)
  replace rf := hid (rf.out.kept hb)
  have B10 := hid (B9.out.trans (hb.mono B9.out.size))
  have y10 := hid hb.size
  clear hb B9
  have eC : (Ct != Ct) = false := by simp
  obtain ⟨ca0, ca1⟩ := ra.out.facts
  go_wp2_with fail
  clear ca0 ca1
  refine Calls.mono (copyB_calls (s.size : Int) (some ⟨ga, 0, none⟩) (need s.size) (need s.size) (rowOf (markS s) s.size) (need_le (by omega)) _ ra.out.wds) ?_
  rintro e x11 ⟨vw, rfl, hrow, hb⟩
  obtain ⟨wo, wcp, rfl⟩ := row_slice hrow
  have cw := hid hb.size
  have hbase := hid (Nat.le_refl x10.heap.size)
  replace ra := hid (ra.out.kept hb)
  replace rb := hid (rb.out.kept hb)
  replace rc := hid (rc.out.kept hb)
  replace rd := hid (rd.out.kept hb)
  replace re := hid (re.out.kept hb)
  replace rf := hid (rf.out.kept hb)
  replace ra := hid (ra.out.alloc (.cells #[.int .i64 (s.size : Int), .slice wo (need s.size) wcp] 25))
  replace rb := hid (rb.out.alloc (.cells #[.int .i64 (s.size : Int), .slice wo (need s.size) wcp] 25))
  replace rc := hid (rc.out.alloc (.cells #[.int .i64 (s.size : Int), .slice wo (need s.size) wcp] 25))
  replace rd := hid (rd.out.alloc (.cells #[.int .i64 (s.size : Int), .slice wo (need s.size) wcp] 25))
  replace re := hid (re.out.alloc (.cells #[.int .i64 (s.size : Int), .slice wo (need s.size) wcp] 25))
  replace rf := hid (rf.out.alloc (.cells #[.int .i64 (s.size : Int), .slice wo (need s.size) wcp] 25))
  have hrw := hid (World.ownsRow.alloc hrow (.cells #[.int .i64 (s.size : Int), .slice wo (need s.size) wcp] 25))
  have vw := hid (At.new x11 #[.int .i64 (s.size : Int), .slice wo (need s.size) wcp] 25)
  have hBb := B10.out.trans (hb.mono B10.out.size)
  have BW := hid (hBb.alloc hBb.size (.cells #[.int .i64 (s.size : Int), .slice wo (need s.size) wcp] 25))
  clear hb hBb hrow B10
  obtain ⟨U, hU⟩ : ∃ U, (x11.alloc (.cells #[.int .i64 (s.size : Int), .slice wo (need s.size) wcp] 25)) = U := ⟨_, rfl⟩
  have zU : Hid (x11.heap.size + 1 = U.heap.size) := by show _ = _; rw [← hU]; simp
  rw [hU] at ra rb rc rd re rf hrw vw BW
  go_upto_region 9 with fail
  (try rw [hU])
  clear hU
  refine wp_region_lit ?_
  refine wpList_load_want 25 _ pa 0 [.int .i64 (s.size : Int), .slice (some ⟨ga, 0, none⟩) (need s.size) (need s.size)] _ ra.out.range Tryd.underlying25 sizeBits rfl rfl rfl (by rfl) ?_
  simp only [Act.put, List.setIfInBounds_toArray, List.set_cons_zero, List.set_cons_succ]
  refine wpList_load_want 25 _ pb 0 [.int .i64 (s.size : Int), .slice (some ⟨gb, 0, none⟩) (need s.size) (need s.size)] _ rb.out.range Tryd.underlying25 sizeBits rfl rfl rfl (by rfl) ?_
  simp only [Act.put, List.setIfInBounds_toArray, List.set_cons_zero, List.set_cons_succ]
  refine wpList_load_want 25 _ pc 0 [.int .i64 (t.size : Int), .slice (some ⟨gc, 0, none⟩) (need t.size) (need t.size)] _ rc.out.range Tryd.underlying25 sizeBits rfl rfl rfl (by rfl) ?_
  simp only [Act.put, List.setIfInBounds_toArray, List.set_cons_zero, List.set_cons_succ]
  refine wpList_load_want 25 _ pd 0 [.int .i64 (t.size : Int), .slice (some ⟨gd, 0, none⟩) (need t.size) (need t.size)] _ rd.out.range Tryd.underlying25 sizeBits rfl rfl rfl (by rfl) ?_
  simp only [Act.put, List.setIfInBounds_toArray, List.set_cons_zero, List.set_cons_succ]
  refine wpList_load_want 25 _ pe 0 [.int .i64 (s.size : Int), .slice (some ⟨ge, 0, none⟩) (need s.size) (need s.size)] _ re.out.range Tryd.underlying25 sizeBits rfl rfl rfl (by rfl) ?_
  simp only [Act.put, List.setIfInBounds_toArray, List.set_cons_zero, List.set_cons_succ]
  refine wpList_load_want 25 _ pf 0 [.int .i64 (s.size : Int), .slice (some ⟨gf, 0, none⟩) (need s.size) (need s.size)] _ rf.out.range Tryd.underlying25 sizeBits rfl rfl rfl (by rfl) ?_
  simp only [Act.put, List.setIfInBounds_toArray, List.set_cons_zero, List.set_cons_succ]
  refine wpList_build rfl _ _ _ rfl _ (by simp only [List.map_toArray, List.map_cons, List.map_nil]; rfl) _ _ (run_build6 (.int .i64 (s.size : Int)) (.slice (some ⟨ga, 0, none⟩) (need s.size) (need s.size)) (.int .i64 (s.size : Int)) (.slice (some ⟨gb, 0, none⟩) (need s.size) (need s.size)) (.int .i64 (t.size : Int)) (.slice (some ⟨gc, 0, none⟩) (need t.size) (need t.size)) (.int .i64 (t.size : Int)) (.slice (some ⟨gd, 0, none⟩) (need t.size) (need t.size)) (.int .i64 (s.size : Int)) (.slice (some ⟨ge, 0, none⟩) (need s.size) (need s.size)) (.int .i64 (s.size : Int)) (.slice (some ⟨gf, 0, none⟩) (need s.size) (need s.size)) _) ?_
  simp only [Act.put, List.setIfInBounds_toArray, List.set_cons_zero, List.set_cons_succ]
  go_wp2_with fail
  have al : Below U.heap.size U (U.alloc (.cells #[.int .i64 (s.size : Int), .slice (some ⟨ga, 0, none⟩) (need s.size) (need s.size), .int .i64 (s.size : Int), .slice (some ⟨gb, 0, none⟩) (need s.size) (need s.size), .int .i64 (t.size : Int), .slice (some ⟨gc, 0, none⟩) (need t.size) (need t.size), .int .i64 (t.size : Int), .slice (some ⟨gd, 0, none⟩) (need t.size) (need t.size), .int .i64 (s.size : Int), .slice (some ⟨ge, 0, none⟩) (need s.size) (need s.size), .int .i64 (s.size : Int), .slice (some ⟨gf, 0, none⟩) (need s.size) (need s.size)] 25)) := (Below.refl _ _).alloc (Nat.le_refl _) _
  have hAl := At.new U #[.int .i64 (s.size : Int), .slice (some ⟨ga, 0, none⟩) (need s.size) (need s.size), .int .i64 (s.size : Int), .slice (some ⟨gb, 0, none⟩) (need s.size) (need s.size), .int .i64 (t.size : Int), .slice (some ⟨gc, 0, none⟩) (need t.size) (need t.size), .int .i64 (t.size : Int), .slice (some ⟨gd, 0, none⟩) (need t.size) (need t.size), .int .i64 (s.size : Int), .slice (some ⟨ge, 0, none⟩) (need s.size) (need s.size), .int .i64 (s.size : Int), .slice (some ⟨gf, 0, none⟩) (need s.size) (need s.size)] 25
  have hBz := hid (BW.out.alloc BW.out.size (.cells #[.int .i64 (s.size : Int), .slice (some ⟨ga, 0, none⟩) (need s.size) (need s.size), .int .i64 (s.size : Int), .slice (some ⟨gb, 0, none⟩) (need s.size) (need s.size), .int .i64 (t.size : Int), .slice (some ⟨gc, 0, none⟩) (need t.size) (need t.size), .int .i64 (t.size : Int), .slice (some ⟨gd, 0, none⟩) (need t.size) (need t.size), .int .i64 (s.size : Int), .slice (some ⟨ge, 0, none⟩) (need s.size) (need s.size), .int .i64 (s.size : Int), .slice (some ⟨gf, 0, none⟩) (need s.size) (need s.size)] 25))
  have oo : ga < gb ∧ gb < gc ∧ gc < gd ∧ gd < ge ∧ ge < gf ∧ gf < x10.heap.size := by
    have e1 := upa.out
    have e2 := lob'.out
    have e3 := upb.out
    have e4 := zu0.out
    have e5 := loc'.out
    have e6 := upc.out
    have e7 := lod'.out
    have e8 := upd.out
    have e9 := zu1.out
    have e10 := loe'.out
    have e11 := upe.out
    have e12 := lof'.out
    have e13 := upf.out
    have e14 := zu2.out
    have e15 := y7.out
    have e16 := y8.out
    have e17 := y9.out
    have e18 := y10.out
    omega
  obtain ⟨o1, o2, o3, o4, o5, o6⟩ := oo
  have lo0 : w.heap.size ≤ ga := Nat.le_trans hB0z.out loa'.out
  have hRX := (rows6 lo0 o1 o2 o3 o4 o5 ra.out.2 rb.out.2 rc.out.2 rd.out.2 re.out.2 rf.out.2).kept al
  have hlow : Hid (∀ (k : Nat) (x : RowX) (g : Nat), ([⟨some ga, need s.size⟩, ⟨some gb, need s.size⟩, ⟨some gc, need t.size⟩, ⟨some gd, need t.size⟩, ⟨some ge, need s.size⟩, ⟨some gf, need s.size⟩] : List RowX)[k]? = some x → x.g = some g → g < x10.heap.size) := fun k x g hk hg => by
    match k, hk with
    | 0, hk => simp at hk; subst hk; cases hg; omega
    | 1, hk => simp at hk; subst hk; cases hg; omega
    | 2, hk => simp at hk; subst hk; cases hg; omega
    | 3, hk => simp at hk; subst hk; cases hg; omega
    | 4, hk => simp at hk; subst hk; cases hg; omega
    | 5, hk => simp at hk; subst hk; cases hg; omega
    | k + 6, hk => simp at hk
  refine Calls.mono (apartR_calls _ U.heap.size 6 6 w.heap.size [⟨some ga, need s.size⟩, ⟨some gb, need s.size⟩, ⟨some gc, need t.size⟩, ⟨some gd, need t.size⟩, ⟨some ge, need s.size⟩, ⟨some gf, need s.size⟩] _ rfl (by decide) (by decide) (fun x hx => by
      have h1 : need s.size ≤ 2199023255553 := by unfold need; omega
      have h2 : need t.size ≤ 2199023255553 := by unfold need; omega
      simp at hx
      rcases hx with rfl | rfl | rfl | rfl | rfl | rfl
      · show need s.size ≤ _; omega
      · show need s.size ≤ _; omega
      · show need t.size ≤ _; omega
      · show need t.size ≤ _; omega
      · show need s.size ≤ _; omega
      · show need s.size ≤ _; omega) hBz.out.size (fun k x hk => by
      rw [hAl.cell (k * 2 + 1)]
      match k, hk with
      | 0, hk => simp at hk; subst hk; rfl
      | 1, hk => simp at hk; subst hk; rfl
      | 2, hk => simp at hk; subst hk; rfl
      | 3, hk => simp at hk; subst hk; rfl
      | 4, hk => simp at hk; subst hk; rfl
      | 5, hk => simp at hk; subst hk; rfl
      | k + 6, hk => simp at hk) hRX) ?_
  rintro e W7 ⟨rfl, hK7⟩
  have hB7 := hid (hBz.out.trans hK7.1)
  have vw7 := hid (hK7.2 _ _ _ (vw.out.alloc (.cells #[.int .i64 (s.size : Int), .slice (some ⟨ga, 0, none⟩) (need s.size) (need s.size), .int .i64 (s.size : Int), .slice (some ⟨gb, 0, none⟩) (need s.size) (need s.size), .int .i64 (t.size : Int), .slice (some ⟨gc, 0, none⟩) (need t.size) (need t.size), .int .i64 (t.size : Int), .slice (some ⟨gd, 0, none⟩) (need t.size) (need t.size), .int .i64 (s.size : Int), .slice (some ⟨ge, 0, none⟩) (need s.size) (need s.size), .int .i64 (s.size : Int), .slice (some ⟨gf, 0, none⟩) (need s.size) (need s.size)] 25)) (fun k x hk e => by have h1 := hlow.out k x _ hk e; have h2 := cw.out; omega))
  have row7 := hid (own_apart7 (B := w.heap.size) (World.ownsRow.alloc hrw.out (.cells #[.int .i64 (s.size : Int), .slice (some ⟨ga, 0, none⟩) (need s.size) (need s.size), .int .i64 (s.size : Int), .slice (some ⟨gb, 0, none⟩) (need s.size) (need s.size), .int .i64 (t.size : Int), .slice (some ⟨gc, 0, none⟩) (need t.size) (need t.size), .int .i64 (t.size : Int), .slice (some ⟨gd, 0, none⟩) (need t.size) (need t.size), .int .i64 (s.size : Int), .slice (some ⟨ge, 0, none⟩) (need s.size) (need s.size), .int .i64 (s.size : Int), .slice (some ⟨gf, 0, none⟩) (need s.size) (need s.size)] 25)) hK7 (fun k x g hk hg => by exact hlow.out k x g hk hg))
  clear hK7 hRX hAl al
  go_wp2_with fail
  have hcs : Hid (∀ W' : World, Below W7.heap.size W7 W' → (W'.cell? ⟨x11.heap.size, 0, none⟩ = some (.int .i64 (s.size : Int)) ∧ W'.cell? ⟨x11.heap.size, 1, none⟩ = some (.slice wo (need s.size) wcp))) := fun W' h => ⟨(vw7.out.keptAll h).facts.1, (vw7.out.keptAll h).facts.2.1⟩
  have hs0 := hcs.out W7.drew (Below.refl _ _).drew
  rename_i K3 hK3
  refine wp_region_held_drew (S := fun W' => W'.cell? ⟨x11.heap.size, 0, none⟩ = some (.int .i64 (s.size : Int)) ∧ W'.cell? ⟨x11.heap.size, 1, none⟩ = some (.slice wo (need s.size) wcp)) (by kernel_rfl) hs0 (fun hHeld => ?_)
  have q0 : Hid (Below W7.heap.size W7 W7.drew) := (Below.refl _ W7).drew
  (refine' wpAnyH_take (i := 0) rfl (by kernel_rfl) (by kernel_rfl) (by kernel_rfl) (fun _ _ _ h => h) (Or.inl ⟨by rfl, ?_⟩) (by assumption) ?_; rotate_left; (· (intro wq hq; (try dsimp only at hq); go_simp; first | done | with_reducible rfl)); simp only [Act.put, List.getElem_toArray, List.getElem_cons_zero, List.setIfInBounds_toArray, List.set_cons_zero, List.set_cons_succ])
  (refine' wpAnyH_take (i := 2) rfl (by kernel_rfl) (by kernel_rfl) (by kernel_rfl) (fun _ _ _ h => h) (Or.inl ⟨by rfl, ?_⟩) (by assumption) ?_; rotate_left; (· (intro wq hq; (try dsimp only at hq); go_simp; first | done | with_reducible rfl)); simp only [Act.put, List.getElem_toArray, List.getElem_cons_zero, List.getElem_cons_succ, List.setIfInBounds_toArray, List.set_cons_zero, List.set_cons_succ])
  refine wpAnyH_ready (rs := [1]) (by kernel_rfl) (by simp) ?_
  refine AllReadyH.cons rfl (fun K hK => ?_) ?_
  · rw [if_pos (by rfl)]
    go_simp
    refine (marksQ_calls s (by omega) _ (hT'.out.below (hB7.out.trans (q0.out.mono hB7.out.size)) h0'.out) (Nat.lt_of_lt_of_le h0'.out (hB7.out.trans (q0.out.mono hB7.out.size)).size)).mono ?_
    rintro e v1 ⟨gz, -, rfl, hAz, hbz⟩
    have q1 : Hid (Below W7.heap.size W7 v1) := q0.out.trans hbz
    have hAz' := hid hAz
    refine hK.out _ _ (hcs.out _ q1.out) (fun hH1 => ?_)
    clear hK K hAz hbz
    refine wpAnyH_ready (rs := [3]) (by kernel_rfl) (by simp) ?_
    refine AllReadyH.cons rfl (fun K hK => ?_) ?_
    · rw [if_pos (by rfl)]
      go_simp
      refine (same6 (by omega) _ _ _ _ _ hAz'.out.row6 (wds_own (row_keptAll row7.out q1.out))).mono ?_
      rintro e v2 ⟨rfl, hb2⟩
      have q2 : Hid (Below W7.heap.size W7 v2) := q1.out.trans (hb2.mono q1.out.size)
      refine hK.out _ _ (hcs.out _ q2.out) (fun hH2 => ?_)
      clear hK K hb2
      (refine' wpAnyH_take (i := 4) rfl (by kernel_rfl) (by kernel_rfl) (by kernel_rfl) (fun _ _ _ h => h) (Or.inl ⟨by rfl, ?_⟩) (by assumption) ?_; rotate_left; (· (intro wq hq; (try dsimp only at hq); go_simp; first | done | with_reducible rfl)); simp only [Act.put, List.getElem_toArray, List.getElem_cons_zero, List.getElem_cons_succ, List.setIfInBounds_toArray, List.set_cons_zero, List.set_cons_succ])
      refine wpAnyH_done (by kernel_rfl) ?_ _
      refine hK3 _ _ ?_
      clear hcs hs0 hHeld hH1 hH2
      go_wp2
      go_ret
      exact ⟨rfl, hB7.out.trans (q2.out.mono hB7.out.size)⟩
    · exact AllReadyH.nil
  · exact AllReadyH.nil
end Go.Proofs.YtmjmcdoanolelabDoor
