/-
  The heap: mend, push, pop.
-/
import Derived.Test.YtiggfigjibggaaaHpD
import Derived.Lib.SliceRun
namespace Go.Proofs.Ytiggfigjibggaaa
open Go.RowKit Go.Shelf

/-- The heap in memory, nothing kept aside; v: the slice of its entries. -/
structure HV (w : World) (pb : Nat) (room came : Int) (mv v : Value) (H : HpL) : Prop where
  box : At w pb (patC room came mv v) 71
  row : w.ownsRow 0 64 1 v H.length (H.map fun x => ptB x.1)
  ent : ∀ (i : Nat) (x : Nat × Ent), H[i]? = some x → At w x.1 (entC x.2 (i : Int)) 78
  nd : (H.map (·.1)).Nodup
/-- The blocks that a call on a pattern may turn: its own, the row's, the entries'. -/
def PZ (pb : Nat) (v : Value) (H : HpL) (q : Nat) : Prop := q = pb ∨ v.ownBlock = some q ∨ ∃ z ∈ H, z.1 = q
section
variable {w w' : World} {pb : Nat} {room came : Int} {mv v : Value} {g cap n : Nat} {H H' : HpL} {k : Nat}
theorem HM.hv (h : HM w pb room came mv g cap n H n) : HV w pb room came mv (.slice (some ⟨g, 0, none⟩) n cap) H := by
  obtain ⟨P, h1, h2⟩ := h.row
  have hl := h.len
  have hP := h1.1
  have e : P = H.map fun x => ptB x.1 := by
    apply List.ext_getElem?
    intro i
    by_cases hi : i < n
    · have hg : H[i]? = some (H[i]'(by omega)) := List.getElem?_eq_getElem (by omega)
      rw [h2 i _ (by omega) hg, List.getElem?_map, hg]
      rfl
    · rw [List.getElem?_eq_none (by omega), List.getElem?_eq_none (by simp; omega)]
  refine ⟨h.box, ?_, fun i x hi => ?_, h.nd⟩
  · rw [hl, ← e]
    exact h1
  · obtain ⟨q, h3, h4⟩ := h.ent i x hi
    have := (List.getElem?_eq_some_iff.1 hi).1
    rw [h4 (by omega)] at h3
    exact h3
theorem HV.hm (h : HV w pb room came mv (.slice (some ⟨g, 0, none⟩) n cap) H) (hl : H.length = n) (k : Nat) : HM w pb room came mv g cap n H k := by
  refine ⟨h.box, hl, ⟨_, by have := h.row; rw [hl] at this; exact this, fun i x _ hi => by rw [List.getElem?_map, hi]; rfl⟩, fun i x hi => ⟨_, h.ent i x hi, fun _ => rfl⟩, h.nd⟩
theorem HV.kept (h : HV w pb room came mv v H) (hb : ∀ q, PZ pb v H q → q < w.heap.size → w'.heap[q]? = w.heap[q]?) : HV w' pb room came mv v H :=
  ⟨(hb pb (.inl rfl) h.box.lt).trans h.box, own_onP h.row (fun g hg _ hl => hb g (.inr (.inl hg)) hl), fun i x hi => (hb x.1 (.inr (.inr ⟨x, List.mem_of_getElem? hi, rfl⟩)) (h.ent i x hi).lt).trans (h.ent i x hi), h.nd⟩
theorem HV.keptB (h : HV w pb room came mv v H) (hb : Below w.heap.size w w') : HV w' pb room came mv v H := h.kept (fun q _ hl => hb.block q hl)
end
/-- What mend leaves. -/
def MeP (pb : Nat) (room came : Int) (mv : Value) (g cap n : Nat) (H : HpL) (w : World) (e : Ending) (w' : World) : Prop :=
  e = .returned (.tuple #[]) ∧ ∃ H' : HpL, Hid (H'.Perm H) ∧ Hid (IsHp H') ∧ Hid (HM w' pb room came mv g cap n H' n) ∧ Hid (Lap (HZ g H) w w')
set_option maxRecDepth 10000 in
set_option maxHeartbeats 4000000 in
theorem mend_calls (pb : Nat) (room came : Int) (mv : Value) (g cap n : Nat) (hn : (n : Int) ≤ 1048576) (H : HpL) (k : Nat) (x : Nat × Ent) (hx : Hid (H[k]? = some x)) (hri : Hid (RiI H k)) (w : World) (hm : Hid (HM w pb room came mv g cap n H k)) (hc : w.cell? ⟨g, k, none⟩ = some (ptB x.1)) :
    Calls Try.prog 27 #[.pointer (some ⟨pb, 3, none⟩), .int .i64 (k : Int)] w fun e w' => MeP pb room came mv g cap n H w e w' := by
  have hkn : k < n := by have := (List.getElem?_eq_some_iff.1 hx.out).1; have := hm.out.len; omega
  have hkn' : (k : Int) < (n : Int) := by omega
  have c3 := hm.out.box.cell 3
  simp only [patC, List.getElem?_toArray, List.getElem?_cons_succ, List.getElem?_cons_zero] at c3
  have ad : (⟨g, 0, none⟩ : Addr).add k = ⟨g, k, none⟩ := by by_cases h : k = 0 <;> simp [Addr.add, h]
  have hr := hid (rise_calls pb room came mv g cap n hn H k x hx hri w hm)
  clear hri hm
  go_enter Try.func27, Try.ntmps27
  go_wp2_with fail
  refine Calls.mono hr.out ?_
  rintro e w1 ⟨H1, k1, rfl, hx1, hp1, hi1, hm1, hl1⟩
  have hs := hid (sink_calls pb room came mv g cap n hn H1 k1 x hx1 hi1 w1 hm1)
  clear hr hx1 hi1 hm1 c3 hc
  go_wp2_with fail
  refine Calls.mono hs.out ?_
  rintro e w2 ⟨H2, k2, rfl, hx2, hp2, hi2, hm2, hl2⟩
  have hk2 : k2 < n := by have := (List.getElem?_eq_some_iff.1 hx2.out).1; have := hm2.out.len; omega
  obtain ⟨uk, hcu, hcf⟩ := hm2.out.there hk2
  obtain ⟨qx, hex, -⟩ := hm2.out.ent k2 x hx2.out
  have hput := hid (put_calls room came mv pb g n cap x.1 k2 (entC x.2 qx) w2 hm2.out.box hk2 uk hcu hcf hm2.out.gpb (hm2.out.gent hx2.out) (.int .i64 qx) hex rfl)
  have hfin := hid (hm2.out.fill hx2.out)
  have hpp := hid (hp2.out.trans hp1.out)
  have hxm : x ∈ H := hpp.out.mem_iff.1 (List.mem_of_getElem? hx2.out)
  have hlf := hid (((hl1.out.trans hl2.out (fun q _ h => h.perm hp1.out)).setCell ⟨g, k2, none⟩ (.inl rfl) (ptB x.1)).setCell ⟨x.1, 5, none⟩ (.inr ⟨x, hxm, rfl⟩) (.int .i64 (k2 : Int)))
  clear hs hm2 hcu hcf hex hl1 hl2 hp1 hp2
  go_wp2_with fail
  refine Calls.mono hput.out ?_
  rintro e w3 ⟨rfl, rfl⟩
  clear hput
  go_wp2
  go_end0
  exact ⟨rfl, H2, hpp, hi2, hfin, hlf⟩

theorem infoPtE : (Try.prog.info? 64).map (fun i => (i.zero, i.size, i.bytes)) = some (some (.pointer none), 1, 8) := by kernel_rfl
theorem zeroPtE (w : World) : (zeroValue 64).run Try.prog w = .ok (.pointer none) w := by kernel_rfl
/-- What push leaves. -/
def PuP (pb : Nat) (room came : Int) (mv v : Value) (H : HpL) (b : Nat) (e1 : Ent) (w : World) (e : Ending) (w' : World) : Prop :=
  e = .returned (.tuple #[]) ∧ ∃ (v' : Value) (H' : HpL), Hid (H'.Perm (H ++ [(b, e1)])) ∧ Hid (IsHp H') ∧ Hid (HV w' pb room came mv v' H') ∧ Hid (v'.ownBlock = v.ownBlock ∨ ∀ g, v'.ownBlock = some g → w.heap.size ≤ g) ∧ Hid (Lap (fun q => PZ pb v H q ∨ q = b) w w')
set_option maxRecDepth 10000 in
set_option maxHeartbeats 4000000 in
theorem push_calls (pb : Nat) (room came : Int) (mv v : Value) (H : HpL) (hn : H.length < 1048576) (b : Nat) (e1 : Ent) (q1 : Int) (hhp : Hid (IsHp H)) (hnew : Hid (b ∉ H.map (·.1))) (w : World) (h : Hid (HV w pb room came mv v H)) (hb : Hid (At w b (entC e1 q1) 78)) :
    Calls Try.prog 42 #[.pointer (some ⟨pb, 3, none⟩), ptB b] w fun e w' => PuP pb room came mv v H b e1 w e w' := by
  obtain ⟨n, hN⟩ : ∃ n, Hid (H.length = n) := ⟨_, rfl⟩
  rw [hN.out] at hn
  have hn' : (n : Int) + 1 ≤ 1048576 := by omega
  obtain ⟨c, hc⟩ : ∃ c, w.heap.size = c := ⟨_, rfl⟩
  obtain ⟨W1, hW1⟩ : ∃ W, w.alloc (.cells #[ptB b] 64) = W := ⟨_, rfl⟩
  have b1 : Below w.heap.size w W1 := by rw [← hW1]; exact (Below.refl _ w).alloc (Nat.le_refl _) _
  have A1 : At W1 c #[ptB b] 64 := by rw [← hW1, ← hc]; exact At.new _ _ _
  have h1 := h.out.keptB b1
  have hb1 := hb.out.keptAll b1
  have hrow := h1.row
  rw [hN.out] at hrow
  obtain ⟨v', W2, hr, hown, hgr, hv⟩ := app_genP (B := 0) Try.underlying67 infoPtE rfl (by decide) hrow ⟨c, 0, none⟩ 1 [ptB b] rfl (fun j u hj => by
    match j, hj with
    | 0, hj => simp at hj; subst hj; simpa [Addr.add] using A1.cell 0
    | j + 1, hj => simp at hj) (by simp [Value.oneCell']) (by omega) (by decide) (Nat.zero_le _)
  obtain ⟨g, cap, rfl⟩ := own_someP hown (by omega)
  have box2 := at_grownP h1.box hrow hgr (by decide)
  have d3 := h.out.box.cell 3
  have d3' := h1.box.cell 3
  have e3 := box2.cell 3
  have f3 := box2.frozen 3
  simp only [patC, List.getElem?_toArray, List.getElem?_cons_succ, List.getElem?_cons_zero] at d3 d3' e3
  have hr' := hid hr
  have hb2 := at_grownP hb1 hrow hgr (by decide)
  have hm := hid (show HM (W2.setCell ⟨pb, 3, none⟩ (.slice (some ⟨g, 0, none⟩) (n + 1) cap)) pb room came mv g cap (n + 1) (H ++ [(b, e1)]) n from by
    refine ⟨by simpa [patC] using box2.set 3 (.slice (some ⟨g, 0, none⟩) (n + 1) cap), by simp [hN.out], ⟨_, own_setCellP hown box2 (by decide), fun i x _ hi => ?_⟩, fun i x hi => ?_, ?_⟩
    · have e : (H.map fun x => ptB x.1) ++ [ptB b] = (H ++ [(b, e1)]).map fun x => ptB x.1 := by simp
      rw [e, List.getElem?_map, hi]
      rfl
    · by_cases hin : i < n
      · rw [List.getElem?_append_left (by have := hN.out; omega)] at hi
        have hx := at_grownP (h1.ent i x hi) hrow hgr (by decide)
        exact ⟨(i : Int), hx.other (p := ⟨pb, 3, none⟩) (fun e => at_neP box2 hx (by decide) e.symm) _, fun _ => rfl⟩
      · have hl := (List.getElem?_eq_some_iff.1 hi).1
        simp [hN.out] at hl
        obtain rfl : i = n := by omega
        rw [List.getElem?_append_right (by have := hN.out; omega)] at hi
        simp [hN.out] at hi
        subst hi
        exact ⟨q1, hb2.other (p := ⟨pb, 3, none⟩) (fun e => at_neP box2 hb2 (by decide) e.symm) _, fun h => absurd rfl h⟩
    · rw [List.map_append, List.nodup_append]
      refine ⟨h.out.nd, by simp, ?_⟩
      intro a ha c hc
      simp at hc
      subst hc
      exact fun e => hnew.out (e ▸ ha))
  have hxk : Hid ((H ++ [(b, e1)])[n]? = some (b, e1)) := by show _ = _; rw [List.getElem?_append_right (by have := hN.out; omega)]; simp [hN.out]
  have hri := hid (show RiI (H ++ [(b, e1)]) n by have := hp_push hhp.out (b, e1); rw [hN.out] at this; exact this)
  have hcell : (W2.setCell ⟨pb, 3, none⟩ (.slice (some ⟨g, 0, none⟩) (n + 1) cap)).cell? ⟨g, n, none⟩ = some (ptB b) := by
    have hs := own_setCellP (k := 3) (x := .slice (some ⟨g, 0, none⟩) (n + 1) cap) hown box2 (by decide)
    rw [hs.cellAt n (by omega), List.getElem?_append_right (by simp [hN.out])]
    simp [hN.out]
  have hme := hid (mend_calls pb room came mv g cap (n + 1) (by omega) (H ++ [(b, e1)]) n (b, e1) hxk hri _ hm hcell)
  have hl1 := hid (show Lap (fun q => PZ pb v H q ∨ q = b) w (W2.setCell ⟨pb, 3, none⟩ (.slice (some ⟨g, 0, none⟩) (n + 1) cap)) from
    ((Lap.of b1).grown hgr (fun k hk _ => .inl (.inr (.inl hk)))).setCell ⟨pb, 3, none⟩ (.inl (.inl rfl)) _)
  have e3' := hid (show (W2.setCell ⟨pb, 3, none⟩ (.slice (some ⟨g, 0, none⟩) (n + 1) cap)).cell? ⟨pb, 3, none⟩ = some (.slice (some ⟨g, 0, none⟩) (n + 1) cap) from (by
    have := (box2.set 3 (.slice (some ⟨g, 0, none⟩) (n + 1) cap)).cell 3
    simpa [patC] using this))
  have hv' := hid (show (Value.slice (some ⟨g, 0, none⟩) (n + 1) cap).ownBlock = v.ownBlock ∨ ∀ q, (Value.slice (some ⟨g, 0, none⟩) (n + 1) cap).ownBlock = some q → w.heap.size ≤ q from hv.imp id (fun h2 q hq => Nat.le_trans b1.size (h2 q hq)))
  have hgz := hid (show g < w.heap.size → v.ownBlock = some g from fun hlt => by
    rcases hv with hv | hv
    · rw [← hv]; rfl
    · have := hv g rfl
      have := b1.size
      omega)
  clear b1 A1 h1 hb1 hrow hr hown hgr hv box2 hb2 hm hxk hri hcell h hb
  go_enter Try.func42, Try.ntmps42
  go_wp2_with (first | (at_builtin; refine wpList_append_runP rfl _ _ 67 rfl v (.slice (some ⟨c, 0, none⟩) 1 1) (.slice (some ⟨g, 0, none⟩) (n + 1) cap) W2 rfl rfl hr'.out ?_) | fail)
  refine Calls.mono hme.out ?_
  rintro e w3 ⟨rfl, H', hp, hi, hm3, hl3⟩
  clear hme e3' e3 d3 d3' hr'
  have hfin := hid hm3.out.hv
  have hlap := hid (hl1.out.trans hl3.out (fun q hq hz => by
    rcases hz with rfl | ⟨z, hz, rfl⟩
    · exact .inl (.inr (.inl (hgz.out hq)))
    · rcases List.mem_append.1 hz with hz | hz
      · exact .inl (.inr (.inr ⟨z, hz, rfl⟩))
      · simp at hz
        subst hz
        exact .inr rfl))
  go_wp2
  go_end0
  exact ⟨rfl, _, H', hp, hi, hfin, hv', hlap⟩
theorem wpList_clear_runP {ops : Array Oper} {rest : List Oper} {o : Oper} {a : Act} {w : World} {Q : Exit → Act → World → Prop} (hgd : o.guard = none) (s : Operand) (t : TypeId)
    (ho : o.op = .call { callee := .builtin .clear, args := #[s], argTypes := #[t] }) (v : Value) (w' : World) (hs : a.eval s = v)
    (hr : ∀ ty, (Builtin.clear_ #[t] ty #[v]).run Try.prog w = .ok (.tuple #[]) w') (h : wpList Try.prog ops Q rest (a.put o.dst (.tuple #[])) w') : wpList Try.prog ops Q (o :: rest) a w := by
  refine wpList_plain hgd fun K hK => ?_
  unfold Oper.wp execOp
  simp only [ho, resolve, invoke, builtin, Sem.run_bind, Sem.run_pure, Result.andThen_ok, List.map_toArray, List.map_cons, List.map_nil, hs, hr]
  exact hK _ _ h
/-- What pop leaves. -/
def PoP (pb : Nat) (room came : Int) (mv v : Value) (H : HpL) (f : Nat × Ent) (w : World) (e : Ending) (w' : World) : Prop :=
  e = .returned (ptB f.1) ∧ ∃ (v' : Value) (H' : HpL), Hid ((f :: H').Perm H) ∧ Hid (IsHp H') ∧ Hid (HV w' pb room came mv v' H') ∧ Hid (v'.ownBlock = v.ownBlock) ∧ Hid (∃ q, At w' f.1 (entC f.2 q) 78) ∧ Hid (Lap (PZ pb v H) w w')
theorem row_popE {w : World} {base e g m cap : Nat} {xs : List Value} (h : w.ownsRow base e 1 (.slice (some ⟨g, 0, none⟩) (m + 1) cap) (m + 1) xs) : w.ownsRow base e 1 (.slice (some ⟨g, 0, none⟩) m cap) m (xs.take m) := by
  have hl := h.1
  have e1 : xs = xs.take m ++ xs.drop m := (List.take_append_drop m xs).symm
  rw [e1] at h
  exact ownsRow_pop (by rw [List.length_take]; omega) h
set_option maxRecDepth 10000 in
set_option maxHeartbeats 8000000 in
theorem pop_calls (pb : Nat) (room came : Int) (mv v : Value) (H : HpL) (hn : H.length ≤ 1048576) (f : Nat × Ent) (hf : Hid (H[0]? = some f)) (hhp : Hid (IsHp H)) (w : World) (h : Hid (HV w pb room came mv v H)) :
    Calls Try.prog 46 #[.pointer (some ⟨pb, 3, none⟩)] w fun e w' => PoP pb room came mv v H f w e w' := by
  obtain ⟨m, hM⟩ : ∃ m, Hid (H.length = m + 1) := ⟨H.length - 1, by have := (List.getElem?_eq_some_iff.1 hf.out).1; show _ = _; omega⟩
  have hmi : (m : Int) ≤ 1048576 := by have := hM.out; omega
  have hmm : m < m + 1 := by omega
  have hm1 : (m : Int) < (m : Int) + 1 := by omega
  have hrow := h.out.row
  rw [hM.out] at hrow
  obtain ⟨g, cap, rfl⟩ := own_someP hrow (by omega)
  obtain ⟨l, hl⟩ : ∃ l, Hid (H[m]? = some l) := ⟨_, List.getElem?_eq_getElem (by have := hM.out; omega)⟩
  have c3 := h.out.box.cell 3
  simp only [patC, List.getElem?_toArray, List.getElem?_cons_succ, List.getElem?_cons_zero] at c3
  have k0 : w.cell? ⟨g, 0, none⟩ = some (ptB f.1) := by rw [hrow.cellAt 0 (by omega), List.getElem?_map, hf.out]; rfl
  have km : w.cell? ⟨g, m, none⟩ = some (ptB l.1) := by rw [hrow.cellAt m (by omega), List.getElem?_map, hl.out]; rfl
  have kf : w.frozen? ⟨g, 0, none⟩ = false := hrow.frozenAt 0
  have ad : (⟨g, 0, none⟩ : Addr).add m = ⟨g, m, none⟩ := by by_cases h : m = 0 <;> simp [Addr.add, h]
  have hcap : m + 1 ≤ cap := by
    rcases hrow.2 with ⟨h1, -⟩ | ⟨g', cap', cur, h1, -, -, h2, -⟩
    · cases h1
    · cases h1; exact h2
  have hcapI : (m : Int) < (cap : Int) := by omega
  have gpb : pb ≠ g := fun e => own_neP hrow h.out.box (by decide) (by simp [Value.ownBlock, e])
  have hrow' := hid hrow
  clear hrow
  go_enter Try.func46, Try.ntmps46
  go_wp2_with fail
  go_quiet (fail)
  go_wp2_with fail
  go_region
  have hv0 := hid (h.out.keptB (below_drewN w.heap.size w (nq + 1)))
  have row0 := own_onP (W' := w.drewN (nq + 1)) hrow'.out (fun q _ _ hl => (below_drewN w.heap.size w (nq + 1)).block q hl)
  have row1 := hid (row0.stored 0 (ptB l.1)).1
  have box1 := hid (hv0.out.box.other (p := ⟨g, 0, none⟩) gpb (ptB l.1))
  have ent1 := hid (fun (i : Nat) (x : Nat × Ent) (hi : H[i]? = some x) => (hv0.out.ent i x hi).other (p := ⟨g, 0, none⟩) (fun e => own_neP hrow'.out (h.out.ent i x hi) (by decide) (by simp [Value.ownBlock, e])) (ptB l.1))
  have lap1 := hid ((Lap.of (Z := PZ pb (.slice (some ⟨g, 0, none⟩) (m + 1) cap) H) (below_drewN w.heap.size w (nq + 1))).setCell ⟨g, 0, none⟩ (.inr (.inl rfl)) (ptB l.1))
  obtain ⟨W1, hW1⟩ : ∃ W, (w.drewN (nq + 1)).setCell ⟨g, 0, none⟩ (.pointer (some ⟨l.1, 0, none⟩)) = W := ⟨_, rfl⟩
  have hnd := hid h.out.nd
  rw [hW1] at row1 box1 ent1 lap1 ⊢
  have gent := hid (fun (i : Nat) (x : Nat × Ent) (hi : H[i]? = some x) (e : x.1 = g) => own_neP hrow'.out (h.out.ent i x hi) (by decide) (by simp [Value.ownBlock, e]))
  clear hW1 hv0 row0 c3 k0 km kf hrow' h
  have km1 : W1.cell? ⟨g, m, none⟩ = some (ptB l.1) := by
    rw [row1.out.cellAt m (by omega)]
    by_cases e : m = 0
    · subst e
      rw [List.getElem?_set_self (by have := hM.out; simp; omega)]
    · rw [List.getElem?_set_ne (fun e' => e e'.symm), List.getElem?_map, hl.out]
      rfl
  have fm1 := row1.out.frozenAt m
  have hck : ∀ j, j < 1 → (W1.cell? ⟨g, m + j, none⟩).isSome = true := by
    intro j hj
    obtain rfl : j = 0 := by omega
    rw [Nat.add_zero, km1]
    rfl
  have hfk : ∀ j, j < 1 → W1.frozen? ⟨g, m + j, none⟩ = false := by
    intro j hj
    obtain rfl : j = 0 := by omega
    exact fm1
  have hcl : ∀ ty, (Builtin.clear_ #[67] ty #[.slice (some ⟨g, m, none⟩) 1 (cap - m)]).run Try.prog W1 = .ok (.tuple #[]) (W1.setCell ⟨g, m, none⟩ (.pointer none)) := fun ty =>
    Lib.run_clear_slice W1 _ _ ty _ Try.underlying67 zeroPtE rfl rfl g m 1 _ (by omega) hck hfk
  have row2 := hid (row1.out.stored m (.pointer none)).1
  have box2 := hid (box1.out.other (p := ⟨g, m, none⟩) gpb (.pointer none))
  have c3 := box1.out.cell 3
  have d3 := box2.out.cell 3
  have f3 := box2.out.frozen 3
  simp only [patC, List.getElem?_toArray, List.getElem?_cons_succ, List.getElem?_cons_zero] at c3 d3
  have ent2 := hid (fun (i : Nat) (x : Nat × Ent) (hi : H[i]? = some x) => (ent1.out i x hi).other (p := ⟨g, m, none⟩) (gent.out i x hi) (.pointer none))
  have lap2 := hid (lap1.out.setCell ⟨g, m, none⟩ (.inr (.inl rfl)) (.pointer none))
  have row3 := hid (row_popE (own_setCellP (k := 3) (x := .slice (some ⟨g, 0, none⟩) m cap) row2.out box2.out (by decide)))
  have box3 := hid (box2.out.set 3 (.slice (some ⟨g, 0, none⟩) m cap))
  have ent3 := hid (fun (i : Nat) (x : Nat × Ent) (hi : H[i]? = some x) => (ent2.out i x hi).other (p := ⟨pb, 3, none⟩) (fun e => at_neP box2.out (ent2.out i x hi) (by decide) e.symm) (.slice (some ⟨g, 0, none⟩) m cap))
  have lap3 := hid (lap2.out.setCell ⟨pb, 3, none⟩ (.inl rfl) (.slice (some ⟨g, 0, none⟩) m cap))
  clear km1 fm1 row1 box1 ent1 lap1 row2 ent2 lap2 hck hfk
  obtain ⟨W3, hW3⟩ : ∃ W, (W1.setCell ⟨g, m, none⟩ (.pointer none)).setCell ⟨pb, 3, none⟩ (.slice (some ⟨g, 0, none⟩) m cap) = W := ⟨_, rfl⟩
  rw [hW3] at row3 box3 ent3 lap3
  have hW3' := hid hW3
  have box4 := hid (show At W3 pb (patC room came mv (.slice (some ⟨g, 0, none⟩) m cap)) 71 by simpa [patC] using box3.out)
  clear hW3 box3
  by_cases hm0 : m = 0
  · have hmn : ¬ 0 < m := by omega
    have hH : Hid (H = [f]) := by
      have h1 := hf.out
      have h2 := hM.out
      show _ = _
      subst hm0
      match H, h1, h2 with
      | [x], h1, _ => simp at h1; rw [h1]
      | x :: y :: L, _, h2 => simp at h2
    have hfin := hid (show HV W3 pb room came mv (.slice (some ⟨g, 0, none⟩) m cap) [] from ⟨box4.out, by subst hm0; simpa using row3.out, fun i x hi => by simp at hi, by simp⟩)
    have hent := hid (show ∃ q, At W3 f.1 (entC f.2 q) 78 from ⟨_, ent3.out 0 f hf.out⟩)
    have hpm := hid (show (f :: ([] : HpL)).Perm H by rw [hH.out])
    clear ent3 hH hm0
    go_wp2
    rw [hW3'.out]
    go_ret
    exact ⟨rfl, _, [], hpm, hid hp_none, hfin, hid rfl, hent, lap3⟩
  · have hm0' : 0 < m := by omega
    obtain ⟨A, hA⟩ : ∃ A : HpL, H = f :: (A ++ [l]) := by
      have h1 := hf.out
      have h2 := hM.out
      have h3 := hl.out
      match H, h1, h2, h3 with
      | x :: T, h1, h2, h3 =>
        simp at h1 h2
        have hT : T ≠ [] := fun e => by rw [e] at h2; simp at h2; omega
        refine ⟨T.dropLast, ?_⟩
        obtain ⟨j, rfl⟩ : ∃ j, m = j + 1 := ⟨m - 1, by omega⟩
        rw [List.getElem?_cons_succ] at h3
        have e1 : T.getLast hT = l := by
          rw [List.getLast_eq_getElem]
          have := (List.getElem?_eq_some_iff.1 h3).2
          rw [← this]
          congr 1
          omega
        rw [h1, ← e1, List.dropLast_concat_getLast]
    have hAl : A.length + 1 = m := by have := hM.out; rw [hA] at this; simp at this; omega
    have hndA : Hid (((l :: A).map (·.1)).Nodup ∧ ∀ z ∈ l :: A, f.1 ≠ z.1) := by
      have h1 := hnd.out
      rw [hA, List.map_cons, List.nodup_cons] at h1
      have hp : (A ++ [l]).Perm (l :: A) := List.perm_append_singleton l A
      refine ⟨((hp.map _).nodup_iff).1 h1.2, fun z hz e => h1.1 ?_⟩
      rw [e]
      exact List.mem_map_of_mem (hp.mem_iff.2 hz)
    have hHg : Hid (∀ (j : Nat) (x : Nat × Ent), A[j]? = some x → H[j + 1]? = some x) := by
      intro j x hj
      rw [hA, List.getElem?_cons_succ, List.getElem?_append_left (List.getElem?_eq_some_iff.1 hj).1]
      exact hj
    have hmm := hid (show HM W3 pb room came mv g cap m (l :: A) 0 from by
      refine ⟨box4.out, by simpa using hAl, ⟨_, row3.out, fun i x hi0 hi => ?_⟩, fun i x hi => ?_, hndA.out.1⟩
      · obtain ⟨j, rfl⟩ : ∃ j, i = j + 1 := ⟨i - 1, by omega⟩
        rw [List.getElem?_cons_succ] at hi
        have hjl := (List.getElem?_eq_some_iff.1 hi).1
        rw [List.getElem?_take, if_pos (by omega), List.getElem?_set_ne (by omega), List.getElem?_set_ne (by omega), List.getElem?_map, hHg.out j x hi]
        rfl
      · match i, hi with
        | 0, hi =>
          simp at hi
          subst hi
          exact ⟨(m : Int), ent3.out m l hl.out, fun h => absurd rfl h⟩
        | j + 1, hi =>
          rw [List.getElem?_cons_succ] at hi
          exact ⟨_, ent3.out (j + 1) x (hHg.out j x hi), fun _ => rfl⟩)
    have hcell : W3.cell? ⟨g, 0, none⟩ = some (ptB l.1) := by
      rw [row3.out.cellAt 0 (by omega), List.getElem?_take, if_pos hm0', List.getElem?_set_ne (by omega), List.getElem?_set_self (by simp [hM.out])]
    have hri := hid (show RiI (l :: A) 0 by have := hhp.out; rw [hA] at this; exact hp_pop this)
    have hme := hid (mend_calls pb room came mv g cap m hmi (l :: A) 0 l (hid rfl) hri W3 hmm hcell)
    rw [← hW3'.out] at hme
    have hfe := hid (ent3.out 0 f hf.out)
    have hA' := hid hA
    have hfg := hid (gent.out 0 f hf.out)
    clear hmm hri hcell ent3 hHg row3 hA hAl hm0 gent
    go_wp2_with fail
    refine Calls.mono hme.out ?_
    rintro e w4 ⟨rfl, H', hp, hi, hm4, hl4⟩
    rw [hW3'.out] at hl4
    clear hme
    have hfin := hid hm4.out.hv
    have hpf := hid (show (f :: H').Perm H by
      rw [hA'.out]
      exact List.Perm.cons f (hp.out.trans (List.perm_append_singleton l A).symm))
    have hent := hid (show ∃ q, At w4 f.1 (entC f.2 q) 78 from ⟨_, hl4.out.at hfe.out (fun hz => by
      rcases hz with hz | ⟨z, hz, e⟩
      · exact hfg.out hz
      · exact hndA.out.2 z hz e.symm)⟩)
    have hlap := hid (lap3.out.trans hl4.out (fun q _ hz => by
      rcases hz with rfl | ⟨z, hz, rfl⟩
      · exact .inr (.inl rfl)
      · refine .inr (.inr ⟨z, ?_, rfl⟩)
        rw [hA'.out]
        exact List.mem_cons_of_mem f ((List.perm_append_singleton l A).mem_iff.2 hz)))
    go_wp2
    go_ret
    exact ⟨rfl, _, H', hpf, hi, hfin, hid rfl, hent, hlap⟩
end Go.Proofs.Ytiggfigjibggaaa
