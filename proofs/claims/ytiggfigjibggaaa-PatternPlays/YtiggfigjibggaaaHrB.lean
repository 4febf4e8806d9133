/-
  The document's pattern: one more entry; New.
-/
import Derived.Test.YtiggfigjibggaaaHrA
namespace Go.Proofs.Ytiggfigjibggaaa
open Go.RowKit Go.Shelf Go.Maps

theorem infoLrR : (Try.prog.info? 25).map (fun i => (i.zero, i.size, i.bytes)) = some (some (.agg #[.string ⟨#[]⟩, .string ⟨#[]⟩, .int .i64 0, .int .i64 0]), 4, 48) := by kernel_rfl
theorem sizeLrR : (Try.prog.info? 25).map (·.size) = some 4 := by kernel_rfl
theorem wp_append_lr {o : Oper} {a : Act} {w w' : World} {K : Act → World → Prop} {Q : Exit → Act → World → Prop} {x y : Operand} {v v' u : Value} (ho : o.op = .call { callee := .builtin .append, args := #[x, y], argTypes := #[22, 22] }) (hx : a.eval x = v) (hy : a.eval y = u)
    (hr : ∀ ty, (Builtin.append_ #[22, 22] ty #[v, u]).run Try.prog w = .ok v' w') (h : K (a.put o.dst v') w') : o.wp Try.prog a w K Q := by
  unfold Oper.wp execOp
  simp only [ho, resolve, invoke, builtin, Sem.run_bind, Sem.run_pure, Result.andThen_ok, List.map_toArray, List.map_cons, List.map_nil, hx, hy, hr]
  exact h
/-- The document's pattern with its list's header. -/
def RfV (w : World) (qb : Nat) (S : Nat → Prop) (room : Nat) (L : List Ent) (v : Value) : Prop := At w qb #[.int .i64 (room : Int), v] 50 ∧ w.ownsRow 0 25 4 v L.length ((L.map lrOf).flatMap lrL) ∧ S qb ∧ ∀ g, v.ownBlock = some g → S g
/-- One more at the end of the list. -/
theorem rf_appV {w : World} {qb room : Nat} {S : Nat → Prop} {L : List Ent} {N : Nat} {so : Option Addr} {c : Nat} (hN : L.length = N) (hP : RfV w qb S room L (.slice so N c)) (x : Ent) (hL : N ≤ 4096) :
    ∃ so' c' W2, (∀ ty, (Builtin.append_ #[22, 22] ty #[.slice so N c, .slice (some ⟨w.heap.size, 0, none⟩) 1 1]).run Try.prog (w.alloc (.cells #[.string x.r, .string x.n, .int .i64 (x.p : Int), .int .i64 (x.h : Int)] 25)) = .ok (.slice so' (N + 1) c') W2) ∧
      At W2 qb #[.int .i64 (room : Int), .slice so N c] 50 ∧ Lap S w W2 ∧ RfV (W2.setCell ⟨qb, 1, none⟩ (.slice so' (N + 1) c')) qb (fun q => S q ∨ w.heap.size ≤ q) room (L ++ [x]) (.slice so' (N + 1) c') ∧ Lap S w (W2.setCell ⟨qb, 1, none⟩ (.slice so' (N + 1) c')) := by
  obtain ⟨h1, h2, h3, h4⟩ := hP
  rw [hN] at h2
  obtain ⟨W1, hW1⟩ : ∃ W, w.alloc (.cells #[.string x.r, .string x.n, .int .i64 (x.p : Int), .int .i64 (x.h : Int)] 25) = W := ⟨_, rfl⟩
  have A1 : At W1 w.heap.size #[.string x.r, .string x.n, .int .i64 (x.p : Int), .int .i64 (x.h : Int)] 25 := by rw [← hW1]; exact at_newP rfl
  have B1 : Below w.heap.size w W1 := by rw [← hW1]; exact (Below.refl _ w).alloc (Nat.le_refl _) _
  have hv1 := own_onP (W' := W1) h2 (fun g _ _ hl => B1.block g hl)
  have box1 := h1.keptAll B1
  obtain ⟨v', W2, hr, hown, hgr, hv'⟩ := app_genP (B := 0) Try.underlying22 infoLrR rfl (by decide) hv1 ⟨w.heap.size, 0, none⟩ 1 [.string x.r, .string x.n, .int .i64 (x.p : Int), .int .i64 (x.h : Int)] rfl (fun j u hj => by
    rw [Addr.add_mid, Nat.zero_add, A1.cell j, List.getElem?_toArray]
    exact hj) (fun u hu => by simp at hu; rcases hu with rfl | rfl | rfl | rfl <;> rfl) (by omega) (by decide) (Nat.zero_le _)
  have box2 := at_grownP box1 hv1 hgr (by decide)
  have l2 : Lap S w W2 := (Lap.of (Z := S) B1).grown hgr (fun k hk _ => h4 k hk)
  obtain ⟨so', c', rfl⟩ := own_shapeP hown
  refine ⟨so', c', W2, by rw [hW1]; exact hr, box2, l2, ⟨by simpa using box2.set 1 (.slice so' (N + 1) c'), ?_, .inl h3, fun g hg => ?_⟩, l2.setCell ⟨qb, 1, none⟩ h3 _⟩
  · have e : ((L ++ [x]).map lrOf).flatMap lrL = (L.map lrOf).flatMap lrL ++ [.string x.r, .string x.n, .int .i64 (x.p : Int), .int .i64 (x.h : Int)] := by rw [List.map_append, List.flatMap_append]; rfl
    rw [e, List.length_append, hN]
    exact own_setCellP hown box2 (by decide)
  · rcases hv' with hv' | hv'
    · exact .inl (h4 g (by rw [← hv']; exact hg))
    · exact .inr (Nat.le_trans B1.size (hv' g hg))
theorem RfM.shape {w : World} {qb room : Nat} {S : Nat → Prop} {L : List Ent} (hP : RfM w qb S room L) : ∃ so c, RfV w qb S room L (.slice so L.length c) := by
  obtain ⟨v, h1, h2, h3, h4⟩ := hP
  obtain ⟨so, c, rfl⟩ := own_shapeP h2
  exact ⟨so, c, h1, h2, h3, h4⟩
theorem RfV.toM {w : World} {qb room : Nat} {S : Nat → Prop} {L : List Ent} {v : Value} (h : RfV w qb S room L v) : RfM w qb S room L := ⟨v, h⟩
theorem newR_out (room : Int) (hr : room < 0 ∨ 4096 < room) (ao : Option Addr) (n c : Nat) (w : World) :
    Calls Try.prog 34 #[.int .i64 room, .slice ao n c] w fun e w' => e = .returned (.tuple #[.pointer none, .int .i64 2]) ∧ w' = w := by
  by_cases h : room < 0
  · have e1 : decide (room < 0) = true := by simpa using h
    go_enter Try.func34, Try.ntmps34
    go_wp2
    go_ret2
    exact ⟨rfl, rfl⟩
  · have e1 : decide (room < 0) = false := by simpa using h
    have h2 : 4096 < room := by omega
    go_enter Try.func34, Try.ntmps34
    go_wp2
    go_ret2
    exact ⟨rfl, rfl⟩
theorem newR_many (room n : Nat) (hr : room ≤ 4096) (hn : room < n) (ao : Option Addr) (c : Nat) (w : World) :
    Calls Try.prog 34 #[.int .i64 (room : Int), .slice ao n c] w fun e w' => e = .returned (.tuple #[.pointer none, .int .i64 1]) ∧ w' = w := by
  have e1 : decide ((room : Int) < 0) = false := by simp
  have h2 : ¬ (4096 : Int) < (room : Int) := by omega
  have h3 : (room : Int) < (n : Int) := by omega
  go_enter Try.func34, Try.ntmps34
  go_wp2
  go_ret2
  exact ⟨rfl, rfl⟩
/-- What New of the document leaves. -/
def NwR (room : Nat) (l : List Lr) (w : World) (e : Ending) (w' : World) : Prop :=
  Hid (Below w.heap.size w w') ∧ ((Hid (okL l) ∧ ∃ qb, e = .returned (.tuple #[ptB qb, .int .i64 0]) ∧ Hid (RfM w' qb (fun q => w.heap.size ≤ q) room (entsL l))) ∨ (Hid (¬ okL l) ∧ e = .returned (.tuple #[.pointer none, .int .i64 1])))
set_option maxRecDepth 10000 in
set_option maxHeartbeats 8000000 in
theorem newR_calls (room : Nat) (hr : room ≤ 4096) (l : List Lr) (N : Nat) (hN : Hid (l.length = N)) (hl : N ≤ room) (ao : Option Addr) (c : Nat) (w : World) (hlns : Hid (LnsAt w ao l)) :
    Calls Try.prog 34 #[.int .i64 (room : Int), .slice ao N c] w fun e w' => NwR room l w e w' := by
  have e1 : decide ((room : Int) < 0) = false := by simp
  have h2 : ¬ (4096 : Int) < (room : Int) := by omega
  have h3 : ¬ (room : Int) < (N : Int) := by omega
  have hNi : (N : Int) ≤ 4096 := by omega
  obtain ⟨qb, hqb⟩ : ∃ m, w.heap.size = m := ⟨_, rfl⟩
  obtain ⟨W1, hW1⟩ : ∃ W, w.alloc (.cells #[.int .i64 (room : Int), .slice none 0 0] 50) = W := ⟨_, rfl⟩
  have B1 := hid (show Below w.heap.size w W1 by rw [← hW1]; exact (Below.refl _ w).alloc (Nat.le_refl _) _)
  have P1 := hid (show RfM W1 qb (fun q => w.heap.size ≤ q) room (entsL (l.take 0)) from ⟨.slice none 0 0, by rw [← hW1]; exact at_newP hqb, by simpa [entsL] using World.ownsRow_nil W1 0 25 4, by show _ ≤ _; omega, fun g hg => by cases hg⟩)
  have hN' := hN
  clear hN
  go_enter Try.func34, Try.ntmps34
  go_wp2_with fail
  go_loopw [7] (fun ii wr => ∃ i : Nat, i ≤ N ∧ ii = .int .i64 (i : Int) ∧ Hid (RfM wr qb (fun q => w.heap.size ≤ q) room (entsL (l.take i))) ∧ Hid (okL (l.take i)) ∧ Hid (Below w.heap.size w wr)) (fun ii _ => N - (intOf ii).toNat)
  case atStart => exact ⟨0, Nat.zero_le _, rfl, P1, hid ⟨fun x hx => by simp at hx, by simp⟩, B1⟩
  case round =>
    clear P1 B1 hW1 hqb
    obtain ⟨i, hi, rfl, hP, hok, hB⟩ := hrel
    by_cases hlt : i < N
    · have hlti : (i : Int) < (N : Int) := by omega
      have hi' := hid (show i + 1 ≤ N by omega)
      obtain ⟨x, hx⟩ : ∃ x, Hid (l[i]? = some x) := ⟨l[i]'(by rw [hN'.out]; exact hlt), List.getElem?_eq_getElem _⟩
      obtain ⟨hxo, g, o, rfl, hg, hrg⟩ := (hlns.out.kept hB.out) i x hx.out
      have hrg := hid (range_lr hrg)
      have ad : (⟨g, o, none⟩ : Addr).add (i * 4) = ⟨g, o + i * 4, none⟩ := by by_cases h : i * 4 = 0 <;> simp [Addr.add, h]
      have x0 := hrg.out 0 _ rfl
      have x1 := hrg.out 1 _ rfl
      have x2 := hrg.out 2 _ rfl
      have x3 := hrg.out 3 _ rfl
      rw [Nat.add_zero] at x0
      have htk : Hid (l.take (i + 1) = l.take i ++ [x]) := by show _ = _; rw [List.take_add_one, hx.out]; rfl
      have hents : Hid (entsL (l.take (i + 1)) = entsL (l.take i) ++ [entO x i]) := by
        show _ = _
        rw [htk.out, entsL_snoc, List.length_take, Nat.min_eq_left (by rw [hN'.out]; omega)]
      have hlnT : Hid ((entsL (l.take i)).length = i) := by show _ = _; simp [entsL, hN'.out]; omega
      obtain ⟨v, hbox, hrow, -, -⟩ := hP.out
      have hbox := hid hbox
      have c1 := hbox.out.cell 1
      simp only [List.getElem?_toArray, List.getElem?_cons_succ, List.getElem?_cons_zero] at c1
      rw [hlnT.out] at hrow
      have hrow := hid hrow
      obtain ⟨k, hk⟩ := fnd_ex (entsL (l.take i)) x.r x.n
      have hfd := hid (fun m : Nat => find25_calls (entsL (l.take i)) i hlnT.out (by omega) v x.r x.n hk (wr.drewN m) (own_onP (W' := wr.drewN m) hrow.out (fun _ _ _ _ => rfl)))
      obtain ⟨F, hF⟩ : ∃ F, Hid (frm x = F) := ⟨_, rfl⟩
      rcases hk with ⟨rfl, hno⟩ | ⟨A, y, B, hLe, rfl, hkey, -⟩
      rotate_left
      · have hbad := hid (show ¬ okL l from fun h => by
          obtain ⟨z, hz, h1, h2⟩ := entsL_mem (show y ∈ entsL (l.take i) by rw [hLe]; simp)
          have h3 := (okL_take h (i + 1)).2
          rw [htk.out, List.pairwise_append] at h3
          exact h3.2.2 z hz x (by simp) ⟨by rw [← h1, hkey.1], by rw [← h2, hkey.2]⟩)
        obtain ⟨a, ha⟩ : ∃ a, A.length = a := ⟨_, rfl⟩
        rw [ha] at hfd
        have ka : decide ((0 : Int) ≤ (a : Int)) = true := by simp
        clear hP hok hrow hents hLe hkey ha hF
        obtain ⟨xr, xn, xp, xh⟩ := x
        dsimp only at *
        go_wp2_with fail
        go_quiet ((go_at_call 51; exact Calls.quiet_of_same (hfd.out _)))
        go_wp2
        go_ret2
        exact ⟨hid (hB.out.trans ((below_drewN _ _ _).mono hB.out.size)), .inr ⟨hbad, rfl⟩⟩
      · have hno := hid hno
        by_cases hf : F = false
        · subst hf
          have hbad := hid (show ¬ okL l from fun h => by
            have := h.1 _ (List.mem_of_getElem? hx.out)
            rw [hF.out] at this
            cases this)
          have hfr := hF.out
          clear hP hok hrow hents hF hno
          obtain ⟨xr, xn, xp, xh⟩ := x
          dsimp only at *
          by_cases f1 : xp < 0
          · have q1 : decide (xp < 0) = true := by simpa using f1
            go_wp2_with fail
            go_quiet ((go_at_call 51; exact Calls.quiet_of_same (hfd.out _)))
            go_wp2
            go_ret2
            exact ⟨hid (hB.out.trans ((below_drewN _ _ _).mono hB.out.size)), .inr ⟨hbad, rfl⟩⟩
          · have q1 : decide (xp < 0) = false := by simpa using f1
            by_cases f2 : xh < 0
            · have q2 : decide (xh < 0) = true := by simpa using f2
              go_wp2_with fail
              go_quiet ((go_at_call 51; exact Calls.quiet_of_same (hfd.out _)))
              go_wp2
              go_ret2
              exact ⟨hid (hB.out.trans ((below_drewN _ _ _).mono hB.out.size)), .inr ⟨hbad, rfl⟩⟩
            · have q2 : decide (xh < 0) = false := by simpa using f2
              have f3 : 4611686018427387904 < xh := by
                simp [frm] at hfr
                omega
              have q3 : decide (4611686018427387904 < xh) = true := by simpa using f3
              go_wp2_with fail
              go_quiet ((go_at_call 51; exact Calls.quiet_of_same (hfd.out _)))
              go_wp2
              go_ret2
              exact ⟨hid (hB.out.trans ((below_drewN _ _ _).mono hB.out.size)), .inr ⟨hbad, rfl⟩⟩
        · obtain rfl : F = true := by simpa using hf
          have hfb := hid (frm_bounds hF.out)
          have hok' := hid (okL_snoc hok.out hx.out hF.out (fun y hy h => by
            obtain ⟨e, he, h1, h2⟩ := mem_entsL hy
            exact hno.out e he ⟨h1.trans h.1, h2.trans h.2⟩))
          clear hf hok hno hF
          obtain ⟨xr, xn, xp, xh⟩ := x
          dsimp only at *
          obtain ⟨pn, rfl⟩ : ∃ k : Nat, xp = (k : Int) := ⟨xp.toNat, by have := hfb.out.1; (try dsimp only at this); omega⟩
          obtain ⟨hn, rfl⟩ : ∃ k : Nat, xh = (k : Int) := ⟨xh.toNat, by have := hfb.out.2.1; (try dsimp only at this); omega⟩
          have hee := hid (show entO ⟨xr, xn, (pn : Int), (hn : Int)⟩ i = ⟨xr, xn, pn, hn, i⟩ by simp [entO])
          have q1 : decide ((pn : Int) < 0) = false := by simp
          have q2 : decide ((hn : Int) < 0) = false := by simp
          have q3 : decide (4611686018427387904 < (hn : Int)) = false := by have := hfb.out.2.2; (try dsimp only at this); simp; omega
          have hP0 := hP
          clear hP hrow
          go_wp2_with fail
          go_quiet ((go_at_call 51; exact Calls.quiet_of_same (hfd.out _)))
          obtain ⟨W2, hW2⟩ : ∃ W, wr.drewN nq = W := ⟨_, rfl⟩
          rw [hW2]
          have B2 := hid (show Below w.heap.size w W2 by rw [← hW2]; exact hB.out.trans ((below_drewN _ _ _).mono hB.out.size))
          have P2 := hid (show RfM W2.drew qb (fun q => w.heap.size ≤ q) room (entsL (l.take i)) by rw [← hW2]; exact (hP0.out.keptB (below_drewN wr.heap.size wr nq)).keptB (w' := (wr.drewN nq).drew) (below_drewN _ _ 1))
          have R2 := hid (show W2.drew.rangeAt g (o + i * 4) [.string xr, .string xn, .int .i64 (pn : Int), .int .i64 (hn : Int)] by rw [← hW2]; exact hrg.out)
          have hgl := hid (show g < w.heap.size from by
            obtain ⟨-, g', o', e, hl, -⟩ := hlns.out i _ hx.out
            cases e
            exact hl)
          obtain ⟨so1, c1', hV⟩ := P2.out.shape
          rw [hlnT.out] at hV
          have box1 := hV.1
          obtain ⟨so', cc', W4, hap, box4, l4, P5, l5⟩ := rf_appV hlnT.out hV ⟨xr, xn, pn, hn, i⟩ (by omega)
          obtain ⟨X, hX⟩ : ∃ X, W2.drew.heap.size = X := ⟨_, rfl⟩
          obtain ⟨W3, hW3⟩ : ∃ W, W2.drew.alloc (.cells #[.string xr, .string xn, .int .i64 (pn : Int), .int .i64 (hn : Int)] 25) = W := ⟨_, rfl⟩
          rw [hX, hW3] at hap
          have S2 := hid (show W2.drew.cell? ⟨qb, 1, none⟩ = some (.slice so1 i c1') ∧ W2.drew.rangeAt g (o + i * 4) [.string xr, .string xn, .int .i64 (pn : Int), .int .i64 (hn : Int)] from ⟨by simpa using box1.cell 1, R2.out⟩)
          have S3 := hid (show W3.cell? ⟨qb, 1, none⟩ = some (.slice so1 i c1') ∧ W3.rangeAt g (o + i * 4) [.string xr, .string xn, .int .i64 (pn : Int), .int .i64 (hn : Int)] by
            have b3 : Below W2.drew.heap.size W2.drew W3 := by rw [← hW3]; exact (Below.refl _ _).alloc (Nat.le_refl _) _
            exact ⟨by simpa using (box1.keptAll b3).cell 1, range_kept R2.out b3⟩)
          have B4 := hid (l4.below (B := w.heap.size) (show w.heap.size ≤ W2.heap.size from B2.out.size) (fun q h => h))
          have S4 := hid (show W4.cell? ⟨qb, 1, none⟩ = some (.slice so1 i c1') ∧ W4.rangeAt g (o + i * 4) [.string xr, .string xn, .int .i64 (pn : Int), .int .i64 (hn : Int)] from ⟨by simpa using box4.cell 1, fun j u hj => by
            rw [World.cell?_of_block (w := W2.drew) (B4.out.block g hgl.out)]
            exact R2.out j u hj⟩)
          have f4 := box4.frozen 1
          have g4 := S4.out.1
          have P6 := hid (show RfM (W4.setCell ⟨qb, 1, none⟩ (.slice so' (i + 1) cc')) qb (fun q => w.heap.size ≤ q) room (entsL (l.take (i + 1))) by
            rw [hents.out, hee.out]
            exact P5.toM.mono (fun q _ h => h.elim id (fun h => Nat.le_trans (show w.heap.size ≤ W2.heap.size from B2.out.size) h)))
          have B6 := hid (show Below w.heap.size w (W4.setCell ⟨qb, 1, none⟩ (.slice so' (i + 1) cc')) from (B2.out.drew).trans ((l5.below (B := w.heap.size) (show w.heap.size ≤ W2.heap.size from B2.out.size) (fun q h => h)).mono (Nat.le_refl _)))
          have hap' := hid hap
          have sb := hid (show (W4.setCell ⟨qb, 1, none⟩ (.slice so' (i + 1) cc')).rangeAt g (o + i * 4) [.string xr, .string xn, .int .i64 (pn : Int), .int .i64 (hn : Int)] ∧ (W4.setCell ⟨qb, 1, none⟩ (.slice so' (i + 1) cc')).cell? ⟨qb, 1, none⟩ = some (.slice so' (i + 1) cc') from ⟨fun j u hj => by
            rw [World.cell?_of_block (w := W2.drew) ((l5.below (B := w.heap.size) (show w.heap.size ≤ W2.heap.size from B2.out.size) (fun q h => h)).block g hgl.out)]
            exact R2.out j u hj, by simpa using (box4.set 1 (.slice so' (i + 1) cc')).cell 1⟩)
          clear hV box1 hap box4 l4 P5 l5 hW2 hB hP0 hfd c1 x0 x1 x2 x3 hbox P2 R2 B2 B4
          go_wp2_with fail
          rename_i Kr hKr
          have d2 := S2.out.1
          have d3 := S3.out.1
          refine wp_region_held_drew (S := fun u => u.rangeAt g (o + i * 4) [.string xr, .string xn, .int .i64 (pn : Int), .int .i64 (hn : Int)]) (by kernel_rfl) S2.out.2 (fun hH => ?_)
          (refine' wpAnyH_take (i := 0) rfl (by kernel_rfl) (by kernel_rfl) (by kernel_rfl) (fun _ _ _ h => h) (Or.inl ⟨by rfl, ?_⟩) (by assumption) ?_; rotate_left; (· (intro wq hq; (try dsimp only at hq); go_simp; first | done | with_reducible rfl)); simp only [Act.put, List.getElem_toArray, List.getElem_cons_zero, List.setIfInBounds_toArray, List.set_cons_zero, List.set_cons_succ])
          (refine' wpAnyH_take (i := 1) rfl (by kernel_rfl) (by kernel_rfl) (by kernel_rfl) (fun _ _ _ h => h) (Or.inl ⟨by rfl, ?_⟩) (by assumption) ?_; rotate_left; (· (intro wq hq; (try dsimp only at hq); go_simp; first | done | with_reducible rfl)); simp only [Act.put, List.getElem_toArray, List.getElem_cons_zero, List.getElem_cons_succ, List.setIfInBounds_toArray, List.set_cons_zero, List.set_cons_succ])
          (refine' wpAnyH_take (i := 2) rfl (by kernel_rfl) (by kernel_rfl) (by kernel_rfl) (fun _ _ _ h => h) (Or.inl ⟨by rfl, ?_⟩) (by assumption) ?_; rotate_left; (· (intro wq hq; (try dsimp only at hq); go_simp; first | done | with_reducible rfl)); simp only [Act.put, List.getElem_toArray, List.getElem_cons_zero, List.getElem_cons_succ, List.setIfInBounds_toArray, List.set_cons_zero, List.set_cons_succ])
          (refine' wpAnyH_take (i := 3) rfl (by kernel_rfl) (by kernel_rfl) (by kernel_rfl) (fun _ _ _ h => h) (Or.inl ⟨by rfl, ?_⟩) (by assumption) ?_; rotate_left; (· (intro wq hq; (try dsimp only at hq); go_simp; first | done | with_reducible rfl)); simp only [Act.put, List.getElem_toArray, List.getElem_cons_zero, List.getElem_cons_succ, List.setIfInBounds_toArray, List.set_cons_zero, List.set_cons_succ])
          (refine' wpAnyH_take (i := 5) rfl (by kernel_rfl) (by kernel_rfl) (by kernel_rfl) (fun _ _ _ h => h) (Or.inl ⟨by rfl, ?_⟩) (by assumption) ?_; rotate_left; (· (intro wq hq; (try dsimp only at hq); go_simp; first | done | with_reducible rfl)); simp only [Act.put, List.getElem_toArray, List.getElem_cons_zero, List.getElem_cons_succ, List.setIfInBounds_toArray, List.set_cons_zero, List.set_cons_succ])
          (refine' wpAnyH_take (i := 6) rfl (by kernel_rfl) (by kernel_rfl) (by kernel_rfl) (fun _ _ _ h => h) (Or.inl ⟨by rfl, ?_⟩) (by assumption) ?_; rotate_left; (· (intro wq hq; (try dsimp only at hq); go_simp; first | done | with_reducible rfl)); simp only [Act.put, List.getElem_toArray, List.getElem_cons_zero, List.getElem_cons_succ, List.setIfInBounds_toArray, List.set_cons_zero, List.set_cons_succ])
          (refine' wpAnyH_take (i := 7) rfl (by kernel_rfl) (by kernel_rfl) (by kernel_rfl) (fun _ _ _ h => h) (Or.inl ⟨by rfl, ?_⟩) (by assumption) ?_; rotate_left; (· (intro wq hq; (try dsimp only at hq); go_simp; first | done | with_reducible rfl)); simp only [Act.put, List.getElem_toArray, List.getElem_cons_zero, List.getElem_cons_succ, List.setIfInBounds_toArray, List.set_cons_zero, List.set_cons_succ])
          (refine wpAnyH_take (i := 8) (v := .agg [.string xr, .string xn, .int .i64 (pn : Int), .int .i64 (hn : Int)].toArray) rfl (by kernel_rfl) (by kernel_rfl) (by kernel_rfl) (fun _ _ _ h => h) (yieldsIf_load_mid (by rfl) 25 _ rfl (g) (o + i * 4) rfl [.string xr, .string xn, .int .i64 (pn : Int), .int .i64 (hn : Int)] _ (fun wq hq => hq) Try.underlying25 rfl sizeLrR) (by assumption) ?_; simp only [Act.put, List.getElem_toArray, List.getElem_cons_zero, List.getElem_cons_succ, List.setIfInBounds_toArray, List.set_cons_zero, List.set_cons_succ])
          refine wpAnyH_ready (rs := [4, 9]) (by kernel_rfl) (by simp) ?_
          refine AllReadyH.cons rfl (fun K hK => ?_) ?_
          · rw [if_pos (by rfl)]
            go_simp
            refine hK _ _ S2.out.2 (fun hH2 => ?_)
            clear hK
            refine wpAnyH_ready (rs := [9]) (by kernel_rfl) (by simp) ?_
            refine AllReadyH.cons rfl (fun K hK => ?_) ?_
            rotate_left
            · exact AllReadyH.nil
            rw [if_pos (by rfl)]
            go_simp
            try rw [hX, hW3]
            refine hK _ _ S3.out.2 (fun hH3 => ?_)
            clear hK
            refine wpAnyH_ready (rs := [10]) (by kernel_rfl) (by simp) ?_
            refine AllReadyH.cons rfl (fun K hK => ?_) ?_
            rotate_left
            · exact AllReadyH.nil
            rw [if_pos (by rfl)]
            refine wp_append_lr rfl rfl rfl hap'.out ?_
            refine hK _ _ S4.out.2 (fun hH4 => ?_)
            clear hK
            (refine' wpAnyH_take (i := 11) rfl (by kernel_rfl) (by kernel_rfl) (by kernel_rfl) (fun _ _ _ h => h) (Or.inl ⟨by rfl, ?_⟩) (by assumption) ?_; rotate_left; (· (intro wq hq; (try dsimp only at hq); go_simp; first | done | with_reducible rfl)); simp only [Act.put, List.getElem_toArray, List.getElem_cons_zero, List.getElem_cons_succ, List.setIfInBounds_toArray, List.set_cons_zero, List.set_cons_succ])
            (refine' wpAnyH_take (i := 12) rfl (by kernel_rfl) (by kernel_rfl) (by kernel_rfl) (fun _ _ _ h => h) (Or.inl ⟨by rfl, ?_⟩) (by assumption) ?_; rotate_left; (· (intro wq hq; (try dsimp only at hq); go_simp; first | done | with_reducible rfl)); simp only [Act.put, List.getElem_toArray, List.getElem_cons_zero, List.getElem_cons_succ, List.setIfInBounds_toArray, List.set_cons_zero, List.set_cons_succ])
            refine wpAnyH_ready (rs := [13]) (by kernel_rfl) (by simp) ?_
            refine AllReadyH.cons rfl (fun K hK => ?_) ?_
            rotate_left
            · exact AllReadyH.nil
            rw [if_pos (by rfl)]
            go_simp
            refine hK _ _ sb.out.1 (fun hH5 => ?_)
            clear hK
            refine wpAnyH_done (by kernel_rfl) ?_ _
            refine hKr _ _ ?_
            clear hKr f4 g4 d2 d3 hX hW3 hap' S2 S3 S4 sb
            go_wp2
            go_roundw
            case rel => exact ⟨i + 1, hi'.out, by simp, P6, hok', B6⟩
            case measure => simp [intOf]; have := hi'.out; omega
          refine AllReadyH.cons rfl (fun K hK => ?_) ?_
          · rw [if_pos (by rfl)]
            go_simp
            try rw [hX, hW3]
            refine hK _ _ S3.out.2 (fun hH2 => ?_)
            clear hK
            refine wpAnyH_ready (rs := [4]) (by kernel_rfl) (by simp) ?_
            refine AllReadyH.cons rfl (fun K hK => ?_) ?_
            rotate_left
            · exact AllReadyH.nil
            rw [if_pos (by rfl)]
            go_simp
            refine hK _ _ S3.out.2 (fun hH3 => ?_)
            clear hK
            refine wpAnyH_ready (rs := [10]) (by kernel_rfl) (by simp) ?_
            refine AllReadyH.cons rfl (fun K hK => ?_) ?_
            rotate_left
            · exact AllReadyH.nil
            rw [if_pos (by rfl)]
            refine wp_append_lr rfl rfl rfl hap'.out ?_
            refine hK _ _ S4.out.2 (fun hH4 => ?_)
            clear hK
            (refine' wpAnyH_take (i := 11) rfl (by kernel_rfl) (by kernel_rfl) (by kernel_rfl) (fun _ _ _ h => h) (Or.inl ⟨by rfl, ?_⟩) (by assumption) ?_; rotate_left; (· (intro wq hq; (try dsimp only at hq); go_simp; first | done | with_reducible rfl)); simp only [Act.put, List.getElem_toArray, List.getElem_cons_zero, List.getElem_cons_succ, List.setIfInBounds_toArray, List.set_cons_zero, List.set_cons_succ])
            (refine' wpAnyH_take (i := 12) rfl (by kernel_rfl) (by kernel_rfl) (by kernel_rfl) (fun _ _ _ h => h) (Or.inl ⟨by rfl, ?_⟩) (by assumption) ?_; rotate_left; (· (intro wq hq; (try dsimp only at hq); go_simp; first | done | with_reducible rfl)); simp only [Act.put, List.getElem_toArray, List.getElem_cons_zero, List.getElem_cons_succ, List.setIfInBounds_toArray, List.set_cons_zero, List.set_cons_succ])
            refine wpAnyH_ready (rs := [13]) (by kernel_rfl) (by simp) ?_
            refine AllReadyH.cons rfl (fun K hK => ?_) ?_
            rotate_left
            · exact AllReadyH.nil
            rw [if_pos (by rfl)]
            go_simp
            refine hK _ _ sb.out.1 (fun hH5 => ?_)
            clear hK
            refine wpAnyH_done (by kernel_rfl) ?_ _
            refine hKr _ _ ?_
            clear hKr f4 g4 d2 d3 hX hW3 hap' S2 S3 S4 sb
            go_wp2
            go_roundw
            case rel => exact ⟨i + 1, hi'.out, by simp, P6, hok', B6⟩
            case measure => simp [intOf]; have := hi'.out; omega
          · exact AllReadyH.nil
    · obtain rfl : i = N := by omega
      have e : l.take i = l := List.take_of_length_le (by rw [hN'.out]; exact Nat.le_refl _)
      rw [e] at hP hok
      go_wp2
      go_ret2
      exact ⟨hB, .inl ⟨hok, qb, rfl, hP⟩⟩
end Go.Proofs.Ytiggfigjibggaaa
