/-
  The law TreeMembers, walked.
-/
import Derived.Test.YthfbmelfflpenaaTpG
import Derived.Test.YthfbmelfflpenaaTrG
namespace Go.Proofs.Ythfbmelfflpenaa
open Go.RowKit Go.Shelf

theorem leftK_len {d : Int} (hd : 0 ≤ d) : ∀ (ks : List ByteArray) (l : Int), 0 ≤ leftK d ks l → leftK d ks l + (ks.length : Int) ≤ l
  | [], l, _ => by simp [leftK]
  | k :: ks, l, h => by
    unfold leftK at h ⊢
    split at h
    · omega
    · rename_i hl
      rw [if_neg hl]
      have := leftK_len hd ks _ h
      have ht := toldN_text (x := (k.size : Int)) (d := d) (y := 0) (by omega) hd (by omega)
      simp only [List.length_cons]
      omega
mutual
theorem lnV_of : ∀ (t : Vt) (d y l : Int), 0 ≤ d → 0 ≤ y → l ≤ 2147483647 → 0 ≤ leftV t d y l → lnV t ∧ leftV t d y l + 1 ≤ l
  | .mk k b r t ks vs, d, y, l, hd, hy, hl, h => by
    unfold leftV at h ⊢
    split at h
    · omega
    · rename_i hdd
      rw [if_neg hdd]
      have h1 := leftL_le vs ks d y (leftK d ks (l - toldN ((r.size : Int) + (t.size : Int)) d y)) hd hy
      have h2 := leftK_len hd ks (l - toldN ((r.size : Int) + (t.size : Int)) d y) (by omega)
      have ht := toldN_text (x := (r.size : Int) + (t.size : Int)) (d := d) (y := y) (by omega) hd hy
      obtain ⟨h3, h4⟩ := lnL_of vs ks d y _ hd hy (by omega) h
      unfold lnV
      exact ⟨⟨by omega, by omega, h3⟩, by omega⟩
theorem lnL_of : ∀ (vs : List Vt) (ks : List ByteArray) (d y l : Int), 0 ≤ d → 0 ≤ y → l ≤ 2147483647 → 0 ≤ leftL vs ks d y l → lnL vs ∧ leftL vs ks d y l + (vs.length : Int) ≤ l
  | [], ks, d, y, l, _, _, _, h => by unfold leftL lnL; simp
  | v :: vs, ks, d, y, l, hd, hy, hl, h => by
    unfold leftL at h ⊢
    split at h
    · omega
    · rename_i hll
      rw [if_neg hll]
      have h1 := leftL_le vs ks.tail d y (leftV v (d + 1) (y + 21 + 2 * ((ks.headD ByteArray.empty).size : Int)) l) hd hy
      obtain ⟨h2, h3⟩ := lnV_of v (d + 1) (y + 21 + 2 * ((ks.headD ByteArray.empty).size : Int)) l (by omega) (by omega) hl (by omega)
      obtain ⟨h4, h5⟩ := lnL_of vs ks.tail d y _ hd hy (by omega) h
      unfold lnL
      exact ⟨⟨h2, h4⟩, by simp only [List.length_cons]; omega⟩
end
theorem byd_ln {t : Vt} (h : byd t = false) : lnV t := by
  unfold byd at h
  have h' : 0 ≤ leftV t 1 0 2147483647 := by simpa using h
  exact (lnV_of t 1 0 2147483647 (by decide) (by decide) (by decide) h').1
theorem IsMem.uniq {t : Vt} {nm : ByteArray} {u v : Vt} {B C : Bool} (h : IsMem t nm u B) (h' : IsMem t nm v C) : u = v ∧ B = C := by
  rcases h with ⟨rfl, a1, a2, i, a3, a4⟩ | ⟨rfl, rfl, a⟩ <;> rcases h' with ⟨rfl, b1, b2, j, b3, b4⟩ | ⟨rfl, rfl, b⟩
  · have := a3.uniq b3
    have e : i = j := by omega
    subst e
    rw [a4] at b4
    injection b4 with b4
    exact ⟨b4, rfl⟩
  · exfalso
    rcases a3 with ⟨h, _⟩ | ⟨q, _, h2, _⟩
    · omega
    · exact b ⟨a1, a2, q, h2⟩
  · exfalso
    rcases b3 with ⟨h, _⟩ | ⟨q, _, h2, _⟩
    · omega
    · exact a ⟨b1, b2, q, h2⟩
  · exact ⟨rfl, rfl⟩
theorem small_ln : lnV smallT := by
  unfold smallT listT
  simp [lnV, lnL]
theorem small_mem {u : Vt} {B : Bool} (h : IsMem smallT ⟨#[98]⟩ u B) : B = true ∧ u.kind = 1 := by
  have h2 : IsMem smallT ⟨#[98]⟩ (.mk 1 false ⟨#[]⟩ ⟨#[]⟩ [] []) true := .inl ⟨rfl, rfl, rfl, 1, .inr ⟨1, rfl, rfl, fun j hj => by
    have : j = 0 := by omega
    subst this
    intro e
    have := congrArg (fun o : Option ByteArray => o.map (fun s => s.data)) e
    simp [smallT, Vt.keys] at this⟩, rfl⟩
  obtain ⟨e1, e2⟩ := h.uniq h2
  rw [e1, e2]
  exact ⟨rfl, rfl⟩
theorem ValAt.shape {w : World} {u : Vt} {x : Value} (h : ValAt w u x) : ∃ k b r t ko N kc vo M vc, x = .agg #[.int .i64 k, .bool b, .string r, .string t, .slice ko N kc, .slice vo M vc] := by
  cases h with
  | mk k b r t ks vs ko kc vo vc X hw hz hk hr hv => exact ⟨_, _, _, _, _, _, _, _, _, _, rfl⟩
set_option maxRecDepth 10000 in
set_option maxHeartbeats 8000000 in
theorem treeMembers_walk (t : Vt) (va : Value) (nm : ByteArray) (_ : nm.size ≤ reachBytes) (w : World) (ha : ValAt w t va) :
    Calls Try.prog 3 #[va, .string nm] w fun e w' => e = .returned (.bool true) ∧ Below w.heap.size w w' := by
  have hs := hid (fun u => small_calls u)
  have p1 := hid (fun v u h => memberP_calls smallT small_ln ⟨#[98]⟩ v u h)
  obtain ⟨B, hB⟩ : ∃ B, Hid (byd t = B) := ⟨_, rfl⟩
  have q0 := hid (fun u hu => beyond_calls t B hB va u hu)
  have q1 : Hid (B = false → ∀ u, ValAt u t va → Calls Try.prog 4 #[va, .string nm] u fun e w' => MemQ t nm u e w') := fun e u h => memberP_calls t (byd_ln (by rw [hB.out]; exact e)) nm va u h
  have q2 := hid (fun u h => member17_calls t nm va u h)
  have ha' := hid ha
  clear hB
  cases ha with
  | mk k b r t ks vs ko kc vo vc X hw hzz hk hr hv =>
  clear hw hzz hk hr hv
  generalize Vt.mk k b r t ks vs = T at *
  generalize ks.length = N at *
  generalize vs.length = M at *
  have A1 : Hid (At (w.alloc (.cells #[.int .i64 k, .bool b, .string r, .string t, .slice ko N kc, .slice vo M vc] 25)) w.heap.size #[.int .i64 k, .bool b, .string r, .string t, .slice ko N kc, .slice vo M vc] 25) := At.new _ _ _
  have B1 : Hid (Below w.heap.size w (w.alloc (.cells #[.int .i64 k, .bool b, .string r, .string t, .slice ko N kc, .slice vo M vc] 25))) := (Below.refl _ w).alloc (Nat.le_refl _) _
  go_enter Try.func3, Try.ntmps3
  go_wp2_with fail
  generalize w.alloc (.cells #[.int .i64 k, .bool b, .string r, .string t, .slice ko N kc, .slice vo M vc] 25) = W at A1 B1 ⊢
  refine Calls.mono (hs.out _) ?_
  rintro e w1 ⟨v, rfl, hv, hb⟩
  have A2 := hid (A1.out.keptAll hb)
  have B2 := hid (belowF B1.out hb)
  have hv' := hid hv
  clear hb A1 B1 hv hs
  go_wp2_with fail
  refine Calls.mono (p1.out v _ hv'.out) ?_
  rintro e w2 ⟨x, u, C, rfl, hx, hm, hb⟩
  obtain ⟨rfl, hk1⟩ := small_mem hm
  obtain ⟨ko5, kc5, vo5, vc5, rfl⟩ := hx.six
  rw [hk1]
  have q3 : Below w2.heap.size w2 (w2.alloc (.cells #[.int .i64 1, .bool u.b, .string u.raw, .string u.text, .slice ko5 u.keys.length kc5, .slice vo5 u.kids.length vc5] 25)) := (Below.refl _ _).alloc (Nat.le_refl _) _
  have A3 := hid ((A2.out.keptAll hb).keptAll q3)
  have B3 := hid (belowF (belowF B2.out hb) q3)
  have A2lt := hid (A2.out.keptAll hb).lt
  have P3 := hid (At.new w2 #[.int .i64 1, .bool u.b, .string u.raw, .string u.text, .slice ko5 u.keys.length kc5, .slice vo5 u.kids.length vc5] 25)
  clear hb A2 B2 hx hm hv' p1 q3 hk1
  generalize u.b = b5 at *
  generalize u.raw = r5 at *
  generalize u.text = t5 at *
  generalize u.keys.length = N5 at *
  generalize u.kids.length = M5 at *
  clear u
  go_upto_region 2 with fail
  obtain ⟨p5, hp5⟩ : ∃ p, w2.heap.size = p := ⟨_, rfl⟩
  rw [hp5] at P3 ⊢
  generalize w2.alloc (.cells #[.int .i64 1, .bool b5, .string r5, .string t5, .slice ko5 N5 kc5, .slice vo5 M5 vc5] 25) = w3 at A3 B3 P3 ⊢
  have hAP : Hid (w.heap.size ≠ p5) := fun e => by have := A2lt.out; rw [hp5, e] at this; exact Nat.lt_irrefl _ this
  have hWp : Hid (w.heap.size ≤ p5) := by have := A2lt.out; rw [hp5] at this; exact Nat.le_of_lt this
  clear hp5 A2lt
  have d0 : w3.cell? ⟨p5, 0, none⟩ = some (.int .i64 1) := P3.out.cell 0
  have c0 := A3.out.cell 0
  have c1 := A3.out.cell 1
  have c2 := A3.out.cell 2
  have c3 := A3.out.cell 3
  have c4 := A3.out.cell 4
  have c5 := A3.out.cell 5
  simp only [List.getElem?_toArray, List.getElem?_cons_zero, List.getElem?_cons_succ] at c0 c1 c2 c3 c4 c5
  go_wp2_with fail
  refine Calls.mono (q0.out _ (ha'.out.kept B3.out)) ?_
  rintro e w4 ⟨rfl, hb⟩
  have A4 := hid (A3.out.keptAll hb)
  have P4 := hid (P3.out.keptAll hb)
  have B4 := hid (belowF B3.out hb)
  clear hb A3 B3 P3 q0 c0 c1 c2 c3 c4 c5 d0
  cases B with
  | true =>
    go_wp2
    go_ret
    exact ⟨rfl, B4.out⟩
  | false =>
  have q1' := hid (q1.out rfl)
  clear q1
  have c0 := A4.out.cell 0
  have c1 := A4.out.cell 1
  have c2 := A4.out.cell 2
  have c3 := A4.out.cell 3
  have c4 := A4.out.cell 4
  have c5 := A4.out.cell 5
  simp only [List.getElem?_toArray, List.getElem?_cons_zero, List.getElem?_cons_succ] at c0 c1 c2 c3 c4 c5
  go_wp2_with fail
  refine Calls.mono (q1'.out _ (ha'.out.kept B4.out)) ?_
  rintro e w5 ⟨x, u, C, rfl, hx, hm, hb⟩
  obtain ⟨ko6, kc6, vo6, vc6, rfl⟩ := hx.six
  have A5 := hid (A4.out.keptAll hb)
  have P5 := hid (P4.out.keptAll hb)
  have B5 := hid (belowF B4.out hb)
  have hp4 := hid (P4.out.lt)
  have hx' := hid hx
  have hm' := hid hm
  clear hb A4 B4 P4 q1' c0 c1 c2 c3 c4 c5 hx hm
  have P6 := hid (P5.out.six (y0 := .int .i64 u.kind) (y1 := .bool u.b) (y2 := .string u.raw) (y3 := .string u.text) (y4 := .slice ko6 u.keys.length kc6) (y5 := .slice vo6 u.kids.length vc6))
  have A6 := hid ((((((A5.out.other (p := ⟨p5, 0, none⟩) hAP.out (.int .i64 u.kind)).other (p := ⟨p5, 1, none⟩) hAP.out (.bool u.b)).other (p := ⟨p5, 2, none⟩) hAP.out (.string u.raw)).other (p := ⟨p5, 3, none⟩) hAP.out (.string u.text)).other (p := ⟨p5, 4, none⟩) hAP.out (.slice ko6 u.keys.length kc6)).other (p := ⟨p5, 5, none⟩) hAP.out (.slice vo6 u.kids.length vc6))
  have B6 := hid (below_six B5.out hWp.out (.int .i64 u.kind) (.bool u.b) (.string u.raw) (.string u.text) (.slice ko6 u.keys.length kc6) (.slice vo6 u.kids.length vc6))
  have hX6 := hid (show ValAt _ u _ from (hx'.out.kept (S' := fun _ => True) (fun _ _ _ => trivial) ⟨(same_six (h := p5) (y0 := .int .i64 u.kind) (y1 := .bool u.b) (y2 := .string u.raw) (y3 := .string u.text) (y4 := .slice ko6 u.keys.length kc6) (y5 := .slice vo6 u.kids.length vc6)).1, fun bb hbb hl => same_six.2 bb (by have := hp4.out; omega) hl⟩).at)
  obtain ⟨k6, hk6⟩ : ∃ k, u.kind = k := ⟨_, rfl⟩
  obtain ⟨b6, hb6⟩ : ∃ k, u.b = k := ⟨_, rfl⟩
  obtain ⟨r6, hr6⟩ : ∃ k, u.raw = k := ⟨_, rfl⟩
  obtain ⟨t6, ht6⟩ : ∃ k, u.text = k := ⟨_, rfl⟩
  obtain ⟨N6, hN6⟩ : ∃ k, u.keys.length = k := ⟨_, rfl⟩
  obtain ⟨M6, hM6⟩ : ∃ k, u.kids.length = k := ⟨_, rfl⟩
  rw [hk6, hb6, hr6, ht6, hN6, hM6] at P6 A6 B6 hX6 ⊢
  clear hk6 hb6 hr6 ht6 hN6 hM6 hx'
  have d0 := P5.out.cell 0
  have d1 := P5.out.cell 1
  have d2 := P5.out.cell 2
  have d3 := P5.out.cell 3
  have d4 := P5.out.cell 4
  have d5 := P5.out.cell 5
  simp only [List.getElem?_toArray, List.getElem?_cons_zero, List.getElem?_cons_succ] at d0 d1 d2 d3 d4 d5
  have f0 := P5.out.frozen 0
  have f1 := P5.out.frozen 1
  have f2 := P5.out.frozen 2
  have f3 := P5.out.frozen 3
  have f4 := P5.out.frozen 4
  have f5 := P5.out.frozen 5
  go_upto_region 7 with fail
  clear d0 d1 d2 d3 d4 d5 f0 f1 f2 f3 f4 f5 P5 A5 B5
  generalize (((((w5.setCell ⟨p5, 0, none⟩ (.int .i64 k6)).setCell ⟨p5, 1, none⟩ (.bool b6)).setCell ⟨p5, 2, none⟩ (.string r6)).setCell ⟨p5, 3, none⟩ (.string t6)).setCell ⟨p5, 4, none⟩ (.slice ko6 N6 kc6)).setCell ⟨p5, 5, none⟩ (.slice vo6 M6 vc6) = w6 at P6 A6 B6 hX6 ⊢
  have c0 := A6.out.cell 0
  have c1 := A6.out.cell 1
  have c2 := A6.out.cell 2
  have c3 := A6.out.cell 3
  have c4 := A6.out.cell 4
  have c5 := A6.out.cell 5
  simp only [List.getElem?_toArray, List.getElem?_cons_zero, List.getElem?_cons_succ] at c0 c1 c2 c3 c4 c5
  go_wp2_with fail
  refine Calls.mono (q2.out _ (ha'.out.kept B6.out)) ?_
  rintro e w7 ⟨y, u2, C2, rfl, hy, hm2, hb⟩
  obtain ⟨rfl, rfl⟩ := hm'.out.uniq hm2
  have hy' := hid (hy.kept hb)
  have hX7 := hid (hX6.out.kept hb)
  obtain ⟨k7, b7, r7, t7, ko7, N7, kc7, vo7, M7, vc7, hye⟩ := ValAt.shape hy
  subst hye
  have q3 : Below w7.heap.size w7 (w7.alloc (.cells #[.int .i64 k7, .bool b7, .string r7, .string t7, .slice ko7 N7 kc7, .slice vo7 M7 vc7] 25)) := (Below.refl _ _).alloc (Nat.le_refl _) _
  have P8 := hid ((P6.out.keptAll hb).keptAll q3)
  have B8 := hid (belowF (belowF B6.out hb) q3)
  have R8 := hid (At.new w7 #[.int .i64 k7, .bool b7, .string r7, .string t7, .slice ko7 N7 kc7, .slice vo7 M7 vc7] 25)
  have hy8 := hid (hy'.out.kept q3)
  have hX8 := hid (hX7.out.kept q3)
  clear hb A6 B6 P6 q2 c0 c1 c2 c3 c4 c5 hy hy' hX6 hX7 hm2 hm' q3
  go_upto_region 8 with fail
  obtain ⟨p7, hp7⟩ : ∃ p, w7.heap.size = p := ⟨_, rfl⟩
  rw [hp7] at R8 ⊢
  generalize w7.alloc (.cells #[.int .i64 k7, .bool b7, .string r7, .string t7, .slice ko7 N7 kc7, .slice vo7 M7 vc7] 25) = w8 at P8 B8 R8 hy8 hX8 ⊢
  clear hp7
  have c0 := P8.out.cell 0
  have c1 := P8.out.cell 1
  have c2 := P8.out.cell 2
  have c3 := P8.out.cell 3
  have c4 := P8.out.cell 4
  have c5 := P8.out.cell 5
  simp only [List.getElem?_toArray, List.getElem?_cons_zero, List.getElem?_cons_succ] at c0 c1 c2 c3 c4 c5
  have d0 := R8.out.cell 0
  have d1 := R8.out.cell 1
  have d2 := R8.out.cell 2
  have d3 := R8.out.cell 3
  have d4 := R8.out.cell 4
  have d5 := R8.out.cell 5
  simp only [List.getElem?_toArray, List.getElem?_cons_zero, List.getElem?_cons_succ] at d0 d1 d2 d3 d4 d5
  have e0 : (C == C) = true := by simp
  have hsame := hid (sameV_calls u u _ _ true ⟨fun _ => rfl, fun _ => rfl⟩ w8 hX8.out hy8.out)
  go_wp2_with fail
  refine Calls.mono hsame.out ?_
  rintro e w9 ⟨rfl, hb⟩
  have B9 := hid (belowF B8.out hb)
  clear hb hsame c0 c1 c2 c3 c4 c5 d0 d1 d2 d3 d4 d5
  go_wp2
  go_ret
  exact ⟨rfl, B9.out⟩
end Go.Proofs.Ythfbmelfflpenaa
