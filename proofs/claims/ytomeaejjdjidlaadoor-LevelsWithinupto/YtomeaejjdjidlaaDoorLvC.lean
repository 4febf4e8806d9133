/-
  LvDepth, LvWithin.
-/
import Derived.Test.YtomeaejjdjidlaaDoorLvA
import Derived.Test.YtomeaejjdjidlaaDoorLvB
import Derived.Test.YtomeaejjdjidlaaDoorBitsD
import Derived.Deep.DeepCutAuto
import Derived.Deep.RegionHeld
/-
  What levels.Depth and levels.Close answer.
-/
namespace Go.Proofs.YtomeaejjdjidlaaDoor
open Go.RowKit Go.Shelf

/-- The depth ahead of any place. -/
def depN (s : ByteArray) (a : Int) : Nat := if a ≤ 0 then 0 else depS s (min a.toNat s.size)
theorem depN_at {s : ByteArray} {i : Nat} (h : i ≤ s.size) : depN s (i : Int) = depS s i := by
  unfold depN
  split
  · rw [show i = 0 by omega]; rfl
  · rw [Int.toNat_natCast, Nat.min_eq_left h]
theorem depN_le (s : ByteArray) (a : Int) : depN s a ≤ s.size := by
  unfold depN
  split
  · omega
  · have := depS_le s (min a.toNat s.size); omega
theorem depth1_calls (x y : Value) (w : World) : Calls Tryd.prog 61 #[x, y] w fun e w' => e = .returned (.bool true) ∧ w' = w := by
  go_enter Tryd.func61, Tryd.ntmps61
  go_wp2
  go_ret
  exact ⟨rfl, rfl⟩
theorem enter_depth (args : Array Value) (w : World) : (callFunc 61 args).run Tryd.prog w = .ok (.enter 61 args) w := by kernel_rfl

set_option maxRecDepth 10000 in
set_option maxHeartbeats 2000000 in
theorem depth_calls (s : ByteArray) (hs : s.size ≤ 1099511627776) (a : Int) (D : Nat) (hD : Hid (depN s a = D)) (w : World) (hT : Tab w) (hM : TabM w) (h0 : 1 < w.heap.size) :
    Calls Tryd.prog 40 #[.string s, .int .i64 a] w fun e w' => e = .returned (.int .i64 (D : Int)) ∧ Below w.heap.size w w' := by
  by_cases ha0 : a ≤ 0
  · have hD0 : D = 0 := by rw [← hD.out]; unfold depN; rw [if_pos ha0]
    subst hD0
    clear hT hM hD
    go_enter Tryd.func40, Tryd.ntmps40
    go_wp2
    go_ret
    exact ⟨rfl, Below.refl _ _⟩
  · obtain ⟨k, hk⟩ : ∃ k, Hid (min a.toNat s.size = k) := ⟨_, rfl⟩
    have hks : k ≤ s.size := by rw [← hk.out]; exact Nat.min_le_right _ _
    have hmin : min a (s.size : Int) = (k : Int) := by have := hk.out; omega
    have hmin2 : (if a ≤ (s.size : Int) then a else (s.size : Int)) = (k : Int) := by rw [← hmin]; rfl
    obtain ⟨t, ht⟩ : ∃ t, Hid (s.extract 0 k = t) := ⟨_, rfl⟩
    have htz : t.size = k := by rw [← ht.out]; exact cut_size s k hks
    have hde : Hid (depS t t.size = D) := by
      show _ = _
      rw [htz, ← ht.out, dep_cut s k hks, ← hD.out]
      unfold depN
      rw [if_neg ha0, hk.out]
    have hw := hid (walk_calls t (by omega) 61 #[] (fun w1 _ wx => wx = w1) (fun _ _ _ => False) w hT hM h0 enter_depth (fun _ _ => rfl) (fun _ _ _ _ h => h) (fun _ _ _ _ h _ _ => by rw [h])
      (fun w1 i wx d _ _ _ _ hj => Calls.mono (depth1_calls _ _ wx) (by rintro e w' ⟨rfl, rfl⟩; exact .inl ⟨rfl, hj⟩)))
    have hki : (k : Int) ≤ (s.size : Int) := by omega
    have hsi : (s.size : Int) ≤ 1099511627776 := by omega
    have n1 : decide (a ≤ 0) = false := by simpa using ha0
    have et := ht.out
    clear hT hM hD
    go_enter Tryd.func40, Tryd.ntmps40
    go_wp2_with fail
    refine Calls.mono hw.out ?_
    rintro e w2 ⟨w1, hb1, ⟨rfl, rfl⟩ | ⟨i, -, -, hf⟩⟩
    · rw [hde.out]
      go_wp2
      go_ret
      exact ⟨rfl, hb1⟩
    · exact hf.elim
/-- Between two places, in Close. -/
def ClJ (w : World) (t : ByteArray) (ba br bf hw : Nat) (a : Nat) (w1 : World) (x : Nat) (W : World) : Prop :=
  (At W ba #[.int .i64 (a : Int)] 3 ∧ At W br #[.string t] 9 ∧ At W bf #[.int .i64 (-1)] 3) ∧ (∀ j, j < x → endP t j = false) ∧ (∀ b, hw ≤ b → b < w1.heap.size → W.heap[b]? = w1.heap[b]?) ∧ Below w.heap.size w W
def ClX (w : World) (t : ByteArray) (bf : Nat) (a : Nat) (_ : World) (i : Nat) (W : World) : Prop :=
  At W bf #[.int .i64 ((a + i : Nat) : Int)] 3 ∧ i < t.size ∧ endP t i = true ∧ (∀ j, j < i → endP t j = false) ∧ Below w.heap.size w W

set_option maxRecDepth 10000 in
set_option maxHeartbeats 2000000 in
theorem close1_calls (t : ByteArray) (ht : t.size ≤ 1099511627776) (a i d : Nat) (ha : a ≤ 1099511627776) (hi : i < t.size) (E : Bool) (hE : Hid ((decide (d = 1) && clB (byteAt t i)) = E)) (ba br bf : Nat) (w : World)
    (h1 : At w ba #[.int .i64 (a : Int)] 3) (h2 : At w br #[.string t] 9) (h3 : At w bf #[.int .i64 (-1)] 3) :
    Calls Tryd.prog 64 #[.int .i64 (i : Int), .int .i64 (d : Int), .pointer (some ⟨br, 0, none⟩), .pointer (some ⟨ba, 0, none⟩), .pointer (some ⟨bf, 0, none⟩)] w fun e w' => e = .returned (.bool (!E)) ∧ w' = if E then w.setCell ⟨bf, 0, none⟩ (.int .i64 ((a + i : Nat) : Int)) else w := by
  have c1 := h1.cell 0
  have c2 := h2.cell 0
  have c3 := h3.cell 0
  have f3 := h3.frozen 0
  simp only [List.getElem?_toArray, List.getElem?_cons_zero] at c1 c2 c3
  have hxx := byteAt_num t i hi
  obtain ⟨x, hx⟩ : ∃ x, Hid (byteAt t i = x) := ⟨_, rfl⟩
  rw [hx.out] at hxx
  have hii : (i : Int) < (t.size : Int) := by omega
  have hti : (t.size : Int) ≤ 1099511627776 := by omega
  have hai : (a : Int) ≤ 1099511627776 := by omega
  obtain ⟨C, hC⟩ : ∃ C, Hid (clB x = C) := ⟨_, rfl⟩
  have hE' : Hid ((decide (d = 1) && C) = E) := by show _ = _; rw [← hC.out, ← hx.out]; exact hE.out
  have hcl := hid (fun u => closes_calls x C hC u)
  clear h1 h2 h3 hE hx
  go_enter Tryd.func64, Tryd.ntmps64
  by_cases hd : d = 1
  · subst hd
    go_wp2_with fail
    refine Calls.mono (hcl.out _) ?_
    rintro e w1 ⟨rfl, rfl⟩
    cases C
    · have e0 : E = false := by rw [← hE'.out]; rfl
      subst e0
      go_wp2
      go_ret
      exact ⟨rfl, rfl⟩
    · have e0 : E = true := by rw [← hE'.out]; rfl
      subst e0
      have n2 : decide ((a : Int) + (i : Int) < 0) = false := by simp; omega
      go_wp2
      go_ret
      exact ⟨rfl, by simp⟩
  · have n1 : ((d : Int) == 1) = false := by simp; omega
    have e0 : E = false := by rw [← hE'.out, decide_eq_false hd]; rfl
    subst e0
    go_wp2
    go_ret
    exact ⟨rfl, rfl⟩
theorem enter_close (args : Array Value) (w : World) : (callFunc 64 args).run Tryd.prog w = .ok (.enter 64 args) w := by kernel_rfl
theorem kind_op (s : ByteArray) (a : Int) : opB (kindN s a) = true ↔ ∃ i : Nat, a = i ∧ brO s i = true := by
  unfold kindN
  constructor
  · intro h
    split at h
    · rename_i hr
      refine ⟨a.toNat, by omega, ?_⟩
      split at h
      · rename_i hb
        split at h
        · cases h
        · rw [beg_op hb]; exact h
      · cases h
    · cases h
  · rintro ⟨i, rfl, h⟩
    obtain ⟨h1, h2, h3⟩ := br_at h
    rw [if_pos ⟨by omega, by omega⟩, Int.toNat_natCast, if_pos (by rw [beg_sgn (sgn_op h3)]; exact h2), if_neg (by unfold wordS; rw [sgn_op h3]; simp)]
    exact h3

set_option maxRecDepth 10000 in
set_option maxHeartbeats 2000000 in
theorem close_calls (s : ByteArray) (hs : s.size ≤ 1099511627776) (a : Int) (ha : (Lit.int .i64 a).wf = true) (w : World) (hT : Tab w) (hM : TabM w) (h0 : 1 < w.heap.size) :
    Calls Tryd.prog 41 #[.string s, .int .i64 a] w fun e w' => ∃ c : Int, e = .returned (.int .i64 c) ∧ IsCls s a c ∧ Below w.heap.size w w' := by
  have hbw : Below w.heap.size w (w.alloc (.cells #[.int .i64 a] 3)) := by repeat (first | with_reducible exact Below.refl _ _ | with_reducible refine Below.setCell ?_ (by first | (simp; done) | (simp; omega)) _ | with_reducible refine below_drewN ?_ _ | with_reducible refine Below.alloc ?_ (by first | (simp; done) | (simp; omega)) _ | with_reducible refine Below.drew ?_)
  obtain ⟨k, hk⟩ : ∃ k, Hid (kindN s a = k) := ⟨_, rfl⟩
  have hkc := hid (kind8_calls s (by omega) a ha k hk _ (hT.below hbw (by omega)) (hM.below hbw h0) (by have := hbw.size; omega))
  obtain ⟨O, hO⟩ : ∃ O, Hid (opB k = O) := ⟨_, rfl⟩
  have hop := hid (fun u => opens_calls k O hO u)
  have hT' := hid hT
  have hM' := hid hM
  have h0' := hid h0
  have hsl : Hid (s.size ≤ 1099511627776) := hs
  clear hT hM h0 ha hbw
  go_enter Tryd.func41, Tryd.ntmps41
  go_wp2_with fail
  refine Calls.mono hkc.out ?_
  rintro e w1 ⟨rfl, hb1⟩
  have hb1' := hid hb1
  have hba := hid ((At.new w #[.int .i64 a] 3).keptAll hb1)
  clear hb1 hkc
  go_wp2_with fail
  refine Calls.mono (hop.out _) ?_
  rintro e w2 ⟨rfl, rfl⟩
  cases O
  · go_wp2
    go_ret
    refine ⟨_, rfl, .inr ⟨rfl, fun i hi => ?_⟩, ((Below.refl _ _).alloc (Nat.le_refl _) _).trans (hb1'.out.mono (by simp))⟩
    cases hbo : brO s i
    · rfl
    · have h1 := hO.out
      rw [← hk.out, (kind_op s a).2 ⟨i, hi, hbo⟩] at h1
      cases h1
  · obtain ⟨i, rfl, hbr⟩ := (kind_op s a).1 (by rw [hk.out]; exact hO.out)
    obtain ⟨his, -, -⟩ := br_at hbr
    have hii : (i : Int) ≤ (s.size : Int) := by omega
    have hsi : (s.size : Int) ≤ 1099511627776 := by omega
    have c0 := hba.out.cell 0
    simp only [List.getElem?_toArray, List.getElem?_cons_zero] at c0
    obtain ⟨t, ht⟩ : ∃ t, Hid (s.extract i s.size = t) := ⟨_, rfl⟩
    have et := ht.out
    have hmf : ∀ (fn : Fn) (first cap : Array Value) (w : World), (Instr.makeFunc fn first cap).run Tryd.prog w = .ok (.func fn first cap) w := fun _ _ _ _ => rfl
    go_wp2_with fail
    obtain ⟨V, hV⟩ : ∃ V, (w2.alloc (.cells #[.string t] 9)).alloc (.cells #[.int .i64 (-1)] 3) = V := ⟨_, rfl⟩
    have hVz : V.heap.size = w2.heap.size + 2 := by rw [← hV, World.size_alloc, World.size_alloc]
    have hVb : Below w2.heap.size w2 V := by rw [← hV]; repeat (first | with_reducible exact Below.refl _ _ | with_reducible refine Below.setCell ?_ (by first | (simp; done) | (simp; omega)) _ | with_reducible refine below_drewN ?_ _ | with_reducible refine Below.alloc ?_ (by first | (simp; done) | (simp; omega)) _ | with_reducible refine Below.drew ?_)
    have hw2 : Below w.heap.size w w2 := ((Below.refl _ _).alloc (Nat.le_refl _) _).trans (hb1'.out.mono (by simp))
    have hwV : Below w.heap.size w V := hw2.trans (hVb.mono hw2.size)
    have hlt := hba.out.lt
    have a1 : At V w.heap.size #[.int .i64 (i : Int)] 3 := hba.out.keptAll hVb
    have a2 : At V w2.heap.size #[.string t] 9 := by rw [← hV]; exact (At.new w2 _ _).alloc _
    have a3 : At V (w2.heap.size + 1) #[.int .i64 (-1)] 3 := by
      have h := At.new (w2.alloc (.cells #[.string t] 9)) #[.int .i64 (-1)] 3
      rw [World.size_alloc] at h
      rw [← hV]; exact h
    have htz : t.size ≤ 1099511627776 := by rw [← ht.out, ext_size]; have := hsl.out; omega
    rw [hV]
    refine Calls.mono (walk_calls t htz 64 _ (ClJ w t w.heap.size w2.heap.size (w2.heap.size + 1) V.heap.size i) (ClX w t (w2.heap.size + 1) i) V (hT'.out.below hwV (by have := h0'.out; omega)) (hM'.out.below hwV h0'.out) (by have := h0'.out; have := hwV.size; omega) enter_close
      (fun w3 hb => ⟨⟨a1.keptAll hb, a2.keptAll hb, a3.keptAll hb⟩, fun j hj => by omega, fun _ _ _ => rfl, hwV.trans (hb.mono hwV.size)⟩)
      (fun w3 x wx hx hj => ⟨hj.1, fun j hj2 => by
        by_cases he : j = x
        · rw [he]; unfold endP; rw [nbeg_cl hx]; rfl
        · exact hj.2.1 j (by omega), hj.2.2⟩)
      (fun w3 x wx p hj h1 h2 => by unfold World.cell?; rw [hj.2.2.1 _ h1 h2])
      (fun w3 x wx d hb hx hbg hd hj => by
        obtain ⟨E, hE⟩ : ∃ E, Hid ((decide (d = 1) && clB (byteAt t x)) = E) := ⟨_, rfl⟩
        have hend : endP t x = E := by
          unfold endP
          rw [beg_cl hbg, hd, Bool.and_comm]; exact hE.out
        refine Calls.mono (close1_calls t htz i x d (by have := hsl.out; omega) hx E hE _ _ _ wx hj.1.1 hj.1.2.1 hj.1.2.2) ?_
        rintro e w4 ⟨rfl, rfl⟩
        cases E
        · refine .inl ⟨rfl, hj.1, fun j hj2 => ?_, hj.2.2⟩
          by_cases he : j = x
          · rw [he]; exact hend
          · exact hj.2.1 j (by omega)
        · refine .inr ⟨rfl, ?_, hx, hend, hj.2.1, hj.2.2.2.setCell (p := ⟨w2.heap.size + 1, 0, none⟩) (by show w.heap.size ≤ w2.heap.size + 1; omega) _⟩
          have := hj.1.2.2.set 0 (.int .i64 ((i + x : Nat) : Int))
          simpa using this)) ?_
    rintro e w4 ⟨w3, hb3, ⟨rfl, hJ⟩ | ⟨x, hx, rfl, hX⟩⟩
    · have d0 := hJ.1.2.2.cell 0
      simp only [List.getElem?_toArray, List.getElem?_cons_zero] at d0
      have hJ' := hid hJ
      clear hJ a1 a2 a3 hVz hVb hw2 hwV
      go_wp2
      go_ret
      exact ⟨_, rfl, cls_none hbr (fun j hj => by rw [ht.out] at hj ⊢; exact hJ'.out.2.1 j hj), hJ'.out.2.2.2⟩
    · have d0 := hX.1.cell 0
      simp only [List.getElem?_toArray, List.getElem?_cons_zero] at d0
      have hX' := hid hX
      clear hX a1 a2 a3 hVz hVb hw2 hwV
      go_wp2
      go_ret
      exact ⟨_, rfl, cls_found hbr (by rw [ht.out]; exact hX'.out.2.1) (by rw [ht.out]; exact hX'.out.2.2.1) (fun j hj => by rw [ht.out]; exact hX'.out.2.2.2.1 j hj), hX'.out.2.2.2.2⟩
end Go.Proofs.YtomeaejjdjidlaaDoor

/-
  What levels.upTo, levels.within, levels.Colons and levels.Commas answer.
-/
namespace Go.Proofs.YtomeaejjdjidlaaDoor
open Go.RowKit Go.Shelf

/-- Those of the numbers below n. -/
def fl (P : Nat → Bool) (n : Nat) : List Nat := (List.range n).filter P
theorem fl_t {P : Nat → Bool} {n : Nat} (h : P n = true) : fl P (n + 1) = fl P n ++ [n] := by simp [fl, List.range_succ, h]
theorem fl_f {P : Nat → Bool} {n : Nat} (h : P n = false) : fl P (n + 1) = fl P n := by simp [fl, List.range_succ, h]
theorem fl_skip {P : Nat → Bool} {a b : Nat} (hab : a ≤ b) (h : ∀ i, a ≤ i → i < b → P i = false) : fl P b = fl P a := by
  induction b with
  | zero => rw [show a = 0 by omega]
  | succ b ih =>
    by_cases he : a = b + 1
    · rw [he]
    · rw [fl_f (h b (by omega) (by omega)), ih (by omega) (fun i h1 h2 => h i h1 (by omega))]
theorem fl_len (P : Nat → Bool) (n : Nat) : (fl P n).length ≤ n := by
  have := List.length_filter_le P (List.range n)
  rw [List.length_range] at this
  exact this
theorem fl_zero (P : Nat → Bool) : fl P 0 = [] := rfl
theorem fl_congr {P Q : Nat → Bool} {n : Nat} (h : ∀ i, i < n → P i = Q i) : fl P n = fl Q n := by
  unfold fl
  exact List.filter_congr (fun i hi => h i (List.mem_range.1 hi))
/-- Is the place set, and within? -/
def inW (X : Nat → Nat) (f t : Int) (i : Nat) : Bool := bitAt X i && (decide (f ≤ (i : Int)) && decide ((i : Int) < t))

/-- The row's beginning that is looked at. -/
def UpTo (N k : Nat) (t : Int) (N' k' : Nat) : Prop := ((N : Int) ≤ t ∧ N' = N ∧ k' = k) ∨ (t < (N : Int) ∧ k' = need t.toNat ∧ N' = min (64 * k') N)
theorem upTo_ex (N k : Nat) (t : Int) : ∃ N' k', UpTo N k t N' k' := by
  by_cases h : (N : Int) ≤ t
  · exact ⟨N, k, .inl ⟨h, rfl, rfl⟩⟩
  · exact ⟨_, _, .inr ⟨by omega, rfl, rfl⟩⟩
theorem UpTo.le {N k N' k' : Nat} {t : Int} (h : UpTo N k t N' k') (hk : k = need N) : N' ≤ N ∧ k' ≤ k := by
  unfold need at hk
  rcases h with ⟨_, h1, h2⟩ | ⟨h0, h1, h2⟩
  · omega
  · unfold need at h1; omega
theorem UpTo.formed {N k N' k' : Nat} {t : Int} {X : Nat → Nat} (h : UpTo N k t N' k') (hf : formed (N : Int) k X) : formed (N' : Int) k' X := by
  obtain ⟨f1, f2, f3⟩ := hf
  rw [Int.toNat_natCast] at f2 f3
  rcases h with ⟨_, rfl, rfl⟩ | ⟨h0, h1, h2⟩
  · exact ⟨f1, by rw [Int.toNat_natCast]; exact f2, by rw [Int.toNat_natCast]; exact f3⟩
  · unfold need at f2 h1
    refine ⟨by omega, by rw [Int.toNat_natCast]; unfold need; omega, fun i h3 h4 => ?_⟩
    rw [Int.toNat_natCast] at h3
    exact f3 i (by omega) (by omega)
theorem UpTo.past {N k N' k' i : Nat} {t : Int} (h : UpTo N k t N' k') (h1 : N' ≤ i) (h2 : i < N) : t ≤ (i : Int) := by
  rcases h with ⟨_, rfl, rfl⟩ | ⟨h0, h3, h4⟩
  · omega
  · unfold need at h3; omega

set_option maxRecDepth 10000 in
set_option maxHeartbeats 2000000 in
theorem upTo_calls (N g k cap : Nat) (t : Int) (hk : k ≤ 17592186044416) (hkc : k ≤ cap) (hkn : k = need N) (ht : (Lit.int .i64 t).wf = true) (N' k' : Nat) (hU : Hid (UpTo N k t N' k')) (w : World) :
    Calls Tryd.prog 57 #[bv (N : Int) (some ⟨g, 0, none⟩) k cap, .int .i64 t] w fun e w' => e = .returned (bv (N' : Int) (some ⟨g, 0, none⟩) k' cap) ∧ Below w.heap.size w w' := by
  obtain ⟨t1, t2⟩ := wf_i64 ht
  have hNl : N ≤ 64 * k := by rw [hkn]; unfold need; omega
  have hle := hU.out.le hkn
  clear ht
  have hnew : ∀ (o : Obj) (cs : Array Value), At ((w.alloc o).alloc (.cells cs 34)) (w.heap.size + 1) cs 34 := fun o cs => by
    have h := At.new (w.alloc o) cs 34
    rw [World.size_alloc] at h
    exact h
  have hnew' := hid hnew
  clear hnew hkn
  go_enter Tryd.func57, Tryd.ntmps57
  by_cases h : (N : Int) ≤ t
  · obtain ⟨rfl, rfl⟩ : N' = N ∧ k' = k := by
      rcases hU.out with ⟨_, h1, h2⟩ | ⟨h0, _⟩
      · exact ⟨h1, h2⟩
      · omega
    go_wp2
    exact ret_bits1 rfl rfl (hnew'.out _ _) rfl ⟨rfl, by repeat (first | with_reducible exact Below.refl _ _ | with_reducible refine Below.setCell ?_ (by first | (simp; done) | (simp; omega)) _ | with_reducible refine below_drewN ?_ _ | with_reducible refine Below.alloc ?_ (by first | (simp; done) | (simp; omega)) _ | with_reducible refine Below.drew ?_)⟩
  · obtain ⟨hk', hN'⟩ : k' = need t.toNat ∧ N' = min (64 * k') N := by
      rcases hU.out with ⟨h0, _⟩ | ⟨_, h1, h2⟩
      · exact absurd h0 h
      · exact ⟨h1, h2⟩
    have hlt : t < (N : Int) := by omega
    have e1 : (max t 0 + 63) / 64 = (k' : Int) := by rw [hk']; unfold need; omega
    have e2 : min (64 * (k' : Int)) (N : Int) = (N' : Int) := by rw [hN']; omega
    have m1 : max t 0 ≤ 1125899906842624 := by omega
    have m2 : 0 ≤ max t 0 := by omega
    have hkk : (k' : Int) ≤ (k : Int) := by omega
    have hkk2 : (k : Int) ≤ 17592186044416 := by omega
    have hkk3 : (k : Int) ≤ (cap : Int) := by omega
    have n1 : decide ((N : Int) ≤ t) = false := by simp; omega
    clear hU hk' hN' hle
    generalize hmx : max t 0 = M at *
    go_wp2
    go_region
    all_goals go_wp2
    all_goals exact ret_bits1 rfl rfl (hnew'.out _ _).drew rfl ⟨rfl, by repeat (first | with_reducible exact Below.refl _ _ | with_reducible refine Below.setCell ?_ (by first | (simp; done) | (simp; omega)) _ | with_reducible refine below_drewN ?_ _ | with_reducible refine Below.alloc ?_ (by first | (simp; done) | (simp; omega)) _ | with_reducible refine Below.drew ?_)⟩

/-- The span's box and the row's, in within. -/
def WiS (w : World) (f t : Int) (bl N' g k' cap : Nat) (W : World) : Prop :=
  At W w.heap.size #[.int .i64 f, .int .i64 t] 49 ∧ At W bl #[.int .i64 (N' : Int), .slice (some ⟨g, 0, none⟩) k' cap] 34 ∧ w.heap.size < bl ∧ Below w.heap.size w W
theorem WiS.kept {w W W' : World} {f t : Int} {bl N' g k' cap : Nat} (h : WiS w f t bl N' g k' cap W) (hb : Below W.heap.size W W') : WiS w f t bl N' g k' cap W' := ⟨h.1.keptAll hb, h.2.1.keptAll hb, h.2.2.1, h.2.2.2.trans (hb.mono h.2.2.2.size)⟩
theorem wiS_mk {w W : World} {f t : Int} {bl N' g k' cap : Nat} {x y : Value} (h1 : At W w.heap.size #[.int .i64 f, .int .i64 t] 49) (h2 : At W bl #[x, y] 34) (h3 : w.heap.size < bl) (h4 : Below w.heap.size w W) :
    WiS w f t bl N' g k' cap ((W.setCell ⟨bl, 0, none⟩ (.int .i64 (N' : Int))).setCell ⟨bl, 1, none⟩ (.slice (some ⟨g, 0, none⟩) k' cap)) :=
  ⟨(h1.other (p := ⟨bl, 0, none⟩) (by show w.heap.size ≠ bl; omega) _).other (p := ⟨bl, 1, none⟩) (by show w.heap.size ≠ bl; omega) _, h2.twoL, h3, (h4.setCell (p := ⟨bl, 0, none⟩) (by show w.heap.size ≤ bl; omega) _).setCell (p := ⟨bl, 1, none⟩) (by show w.heap.size ≤ bl; omega) _⟩
def wiM (N : Nat) (v : Value) : Nat := if intOf v < 0 then 0 else N + 1 - (intOf v).toNat
theorem wiM_neg (N : Nat) : wiM N (.int .i64 (-1)) = 0 := rfl
theorem wiM_pos (N p : Nat) : wiM N (.int .i64 (p : Int)) = N + 1 - p := by
  unfold wiM
  have e : intOf (.int .i64 (p : Int)) = (p : Int) := rfl
  rw [e, if_neg (by omega), Int.toNat_natCast]
theorem infoW10 : (Tryd.prog.info? 3).map (fun i => (i.zero, i.size, i.bytes)) = some (some (.int .i64 0), 1, 8) := by kernel_rfl

set_option maxRecDepth 10000 in
set_option maxHeartbeats 2000000 in
theorem within_off (lo : Option Addr) (nl capl : Nat) (lv f t : Int) (hnl : nl ≤ 4611686018427387904) (hlv : lv < 1 ∨ (nl : Int) < lv) (w : World) :
    Calls Tryd.prog 37 #[.slice lo nl capl, .int .i64 lv, .agg #[.int .i64 f, .int .i64 t]] w fun e w' => e = .returned (.slice none 0 0) ∧ Below w.heap.size w w' := by
  go_enter Tryd.func37, Tryd.ntmps37
  rcases hlv with h | h
  · go_wp2
    go_ret
    exact ⟨rfl, by repeat (first | with_reducible exact Below.refl _ _ | with_reducible refine Below.setCell ?_ (by first | (simp; done) | (simp; omega)) _ | with_reducible refine below_drewN ?_ _ | with_reducible refine Below.alloc ?_ (by first | (simp; done) | (simp; omega)) _ | with_reducible refine Below.drew ?_)⟩
  · have n1 : decide (lv < 1) = false := by simp; omega
    go_wp2
    go_ret
    exact ⟨rfl, by repeat (first | with_reducible exact Below.refl _ _ | with_reducible refine Below.setCell ?_ (by first | (simp; done) | (simp; omega)) _ | with_reducible refine below_drewN ?_ _ | with_reducible refine Below.alloc ?_ (by first | (simp; done) | (simp; omega)) _ | with_reducible refine Below.drew ?_)⟩

set_option maxRecDepth 10000 in
set_option maxHeartbeats 4000000 in
theorem within_calls (G nl capl lv : Nat) (f t n : Int) (g k cap : Nat) (X : Nat → Nat) (N : Nat) (hnl : nl ≤ 4611686018427387904) (hlv : lv < nl) (hf : (Lit.int .i64 f).wf = true) (ht : (Lit.int .i64 t).wf = true) (hn : (Lit.int .i64 n).wf = true) (hk : k ≤ 17179869184) (hkc : k ≤ cap) (hE : Hid (Eff n k X N)) (w : World) (hT : Tab w) (h0 : 0 < w.heap.size)
    (hc : w.cell? ⟨G, lv * 2, none⟩ = some (.int .i64 n) ∧ w.cell? ⟨G, lv * 2 + 1, none⟩ = some (.slice (some ⟨g, 0, none⟩) k cap)) (hW : Wds w (some ⟨g, 0, none⟩) k X) :
    Calls Tryd.prog 37 #[.slice (some ⟨G, 0, none⟩) nl capl, .int .i64 ((lv : Int) + 1), .agg #[.int .i64 f, .int .i64 t]] w fun e w' => ∃ v, e = .returned v ∧ w'.ownsRow w.heap.size 3 1 v (fl (inW X f t) N).length (ints (fl (inW X f t) N)) ∧ Below w.heap.size w w' := by
  obtain ⟨i0, hi0, hz0, hz1, hz2⟩ := info_parts infoW10
  obtain ⟨f1, f2⟩ := wf_i64 hf
  obtain ⟨t1, t2⟩ := wf_i64 ht
  obtain ⟨FA, hFA⟩ := formedB n k X
  have hG := cell_block hc.1
  have hfc := hid (fun (w1 : World) (hb : Below w.heap.size w w1) => formed_calls n (some ⟨g, 0, none⟩) k cap X FA hn (by omega) hFA w1 (hW.kept hb))
  have hB0 : Below w.heap.size w (w.alloc (.cells #[.int .i64 f, .int .i64 t] 49)) := by repeat (first | with_reducible exact Below.refl _ _ | with_reducible refine Below.setCell ?_ (by first | (simp; done) | (simp; omega)) _ | with_reducible refine below_drewN ?_ _ | with_reducible refine Below.alloc ?_ (by first | (simp; done) | (simp; omega)) _ | with_reducible refine Below.drew ?_)
  have c0 := (hB0.cell (p := ⟨G, lv * 2, none⟩) hG).trans hc.1
  have c1 := (hB0.cell (p := ⟨G, lv * 2 + 1, none⟩) hG).trans hc.2
  have hli : (lv : Int) < (nl : Int) := by omega
  have hnli : (nl : Int) ≤ 4611686018427387904 := by omega
  have n1 : decide ((lv : Int) + 1 < 1) = false := by simp; omega
  have n2 : decide ((nl : Int) < (lv : Int) + 1) = false := by simp; omega
  have hc' := hid hc
  have hW' := hid hW
  have hT' := hid hT
  have h0' := hid h0
  have hft := hid (And.intro hf ht)
  clear hc hW hT hB0 hf ht
  go_enter Tryd.func37, Tryd.ntmps37
  go_wp2_with fail
  refine Calls.mono (hfc.out _ (by repeat (first | with_reducible exact Below.refl _ _ | with_reducible refine Below.setCell ?_ (by first | (simp; done) | (simp; omega)) _ | with_reducible refine below_drewN ?_ _ | with_reducible refine Below.alloc ?_ (by first | (simp; done) | (simp; omega)) _ | with_reducible refine Below.drew ?_))) ?_
  rintro e w1 ⟨rfl, hb1⟩
  have hB1 : Below w.heap.size w w1 := Below.trans (by repeat (first | with_reducible exact Below.refl _ _ | with_reducible refine Below.setCell ?_ (by first | (simp; done) | (simp; omega)) _ | with_reducible refine below_drewN ?_ _ | with_reducible refine Below.alloc ?_ (by first | (simp; done) | (simp; omega)) _ | with_reducible refine Below.drew ?_)) (hb1.mono (by simp))
  have a1 := hid ((At.new w #[.int .i64 f, .int .i64 t] 49).keptAll hb1)
  clear hfc c0 c1 hb1
  cases FA
  · have hN0 : N = 0 := by
      rcases hE.out with ⟨h, _⟩ | ⟨_, h⟩
      · have h' := hFA.out.1 h; cases h'
      · exact h
    subst hN0
    go_wp2
    go_ret
    exact ⟨_, rfl, World.ownsRow_nil _ _ _ _, hB1⟩
  · have hform : formed n k X := hFA.out.2 rfl
    obtain ⟨N', rfl⟩ := Int.eq_ofNat_of_zero_le hform.1
    obtain rfl : N = N' := by
      rcases hE.out with ⟨_, h⟩ | ⟨h, _⟩
      · simpa using h
      · exact (h hform).elim
    have hkn : k = need N := by have := hform.2.1; rwa [Int.toNat_natCast] at this
    obtain ⟨N', k', hU⟩ := upTo_ex N k t
    have hle := hU.le hkn
    have hform' := hid (hU.formed hform)
    have hU' := hid hU
    have hup := hid (fun u => upTo_calls N g k cap t (by omega) hkc hkn hft.out.2 N' k' hU' u)
    have c0 := (hB1.cell (p := ⟨G, lv * 2, none⟩) hG).trans hc'.out.1
    have c1 := (hB1.cell (p := ⟨G, lv * 2 + 1, none⟩) hG).trans hc'.out.2
    have a1' := a1.out.cell 1
    simp only [List.getElem?_toArray, List.getElem?_cons_zero, List.getElem?_cons_succ] at a1'
    have hB1' := hid hB1
    have hNl : N ≤ 1099511627776 := by rw [hkn] at hk; unfold need at hk; omega
    clear hE hFA hU hform hB1 hkn
    go_upto_region 3 with fail
    go_cut [7] from 27 to 34 (fun p wx => ∃ bl, p = .pointer (some ⟨bl, 0, none⟩) ∧ Hid (WiS w f t bl N' g k' cap wx))
    case first =>
      have hx0 := hid (And.intro (At.drew a1.out) (hB1'.out.drew))
      have hheld : (w1.drew.cell? ⟨G, lv * 2, none⟩ = some (.int .i64 (N : Int)) ∧ w1.drew.cell? ⟨G, lv * 2 + 1, none⟩ = some (.slice (some ⟨g, 0, none⟩) k cap)) ∧ w1.drew.cell? ⟨w.heap.size, 1, none⟩ = some (.int .i64 t) := ⟨⟨c0, c1⟩, a1'⟩
      refine wp_region_held_drew (S := fun w' => (w'.cell? ⟨G, lv * 2, none⟩ = some (.int .i64 (N : Int)) ∧ w'.cell? ⟨G, lv * 2 + 1, none⟩ = some (.slice (some ⟨g, 0, none⟩) k cap)) ∧ w'.cell? ⟨w.heap.size, 1, none⟩ = some (.int .i64 t)) (by kernel_rfl) hheld (fun hHeld => ?_)
      have ew : IntKind.i64.wrap (lv : Int) = (lv : Int) := by rw [IntKind.wrap_i64]; omega
      clear hHeld c0 c1 a1' a1 hB1'
      generalize w1.drew = v0 at *
      (refine' wpAnyH_take (i := 0) rfl (by kernel_rfl) (by kernel_rfl) (by kernel_rfl) (fun _ _ _ h => h) (Or.inl ⟨by rfl, ?_⟩) (by assumption) ?_; rotate_left; (· (intro wq hq; (try dsimp only at hq); go_simp; first | done | with_reducible rfl)); simp only [Act.put, List.getElem_toArray, List.getElem_cons_zero, List.setIfInBounds_toArray, List.set_cons_zero, List.set_cons_succ])
      (refine' wpAnyH_take (i := 1) rfl (by kernel_rfl) (by kernel_rfl) (by kernel_rfl) (fun _ _ _ h => h) (Or.inl ⟨by rfl, ?_⟩) (by assumption) ?_; rotate_left; (· (intro wq hq; (try dsimp only at hq); go_simp; first | done | with_reducible rfl)); simp only [Act.put, List.getElem_toArray, List.getElem_cons_zero, List.getElem_cons_succ, List.setIfInBounds_toArray, List.set_cons_zero, List.set_cons_succ])
      (refine' wpAnyH_take (i := 2) rfl (by kernel_rfl) (by kernel_rfl) (by kernel_rfl) (fun _ _ _ h => h) (Or.inl ⟨by rfl, ?_⟩) (by assumption) ?_; rotate_left; (· (intro wq hq; (try dsimp only at hq); go_simp; first | done | with_reducible rfl)); simp only [Act.put, List.getElem_toArray, List.getElem_cons_zero, List.getElem_cons_succ, List.setIfInBounds_toArray, List.set_cons_zero, List.set_cons_succ])
      (refine' wpAnyH_take (i := 3) rfl (by kernel_rfl) (by kernel_rfl) (by kernel_rfl) (fun _ _ _ h => h) (Or.inl ⟨by rfl, ?_⟩) (by assumption) ?_; rotate_left; (· (intro wq hq; (try dsimp only at hq); go_simp; first | done | with_reducible rfl)); simp only [Act.put, List.getElem_toArray, List.getElem_cons_zero, List.getElem_cons_succ, List.setIfInBounds_toArray, List.set_cons_zero, List.set_cons_succ])
      (refine' wpAnyH_take (i := 4) rfl (by kernel_rfl) (by kernel_rfl) (by kernel_rfl) (fun _ _ _ h => h) (Or.inl ⟨by rfl, ?_⟩) (by assumption) ?_; rotate_left; (· (intro wq hq; (try dsimp only at hq); go_simp; first | done | with_reducible rfl)); simp only [Act.put, List.getElem_toArray, List.getElem_cons_zero, List.getElem_cons_succ, List.setIfInBounds_toArray, List.set_cons_zero, List.set_cons_succ])
      (refine' wpAnyH_take (i := 5) rfl (by kernel_rfl) (by kernel_rfl) (by kernel_rfl) (fun _ _ _ h => h) (Or.inl ⟨by rfl, ?_⟩) (by assumption) ?_; rotate_left; (· (intro wq hq; (try dsimp only at hq); go_simp; first | done | with_reducible rfl)); simp only [Act.put, List.getElem_toArray, List.getElem_cons_zero, List.getElem_cons_succ, List.setIfInBounds_toArray, List.set_cons_zero, List.set_cons_succ])
      (refine' wpAnyH_take (i := 6) rfl (by kernel_rfl) (by kernel_rfl) (by kernel_rfl) (fun _ _ _ h => h) (Or.inl ⟨by rfl, ?_⟩) (by assumption) ?_; rotate_left; (· (intro wq hq; (try dsimp only at hq); go_simp; first | done | with_reducible rfl)); simp only [Act.put, List.getElem_toArray, List.getElem_cons_zero, List.getElem_cons_succ, List.setIfInBounds_toArray, List.set_cons_zero, List.set_cons_succ])
      refine wpAnyH_ready (rs := [7, 8]) (by kernel_rfl) (by simp) ?_
      refine AllReadyH.cons rfl (fun K hK => ?_) ?_
      · rw [if_pos (by rfl)]
        go_simp
        refine Calls.mono (hup.out _) ?_
        rintro e v1 ⟨rfl, q1⟩
        have hx1 := hid (And.intro (hx0.out.1.keptAll q1) (hx0.out.2.trans (q1.mono hx0.out.2.size)))
        have hy1 := hid (And.intro (And.intro ((hx1.out.2.cell (p := ⟨G, lv * 2, none⟩) hG).trans hc'.out.1) ((hx1.out.2.cell (p := ⟨G, lv * 2 + 1, none⟩) hG).trans hc'.out.2)) (hx1.out.1.cell 1))
        refine hK.out _ _ hy1.out (fun _ => ?_)
        clear hK K
        refine wpAnyH_ready (rs := [8]) (by kernel_rfl) (by simp) ?_
        refine AllReadyH.cons rfl (fun K hK => ?_) ?_
        · go_simp
          obtain ⟨v2, e2⟩ : ∃ v, World.alloc v1 (.cells #[.int .i64 0, .slice none 0 0] 34) = v := ⟨_, rfl⟩
          have q2 : Below v1.heap.size v1 v2 := by rw [← e2]; exact (Below.refl _ _).alloc (Nat.le_refl _) _
          have hp := hid (show At v2 v1.heap.size #[.int .i64 0, .slice none 0 0] 34 by rw [← e2]; exact At.new v1 _ _)
          have hlo := hid (show w.heap.size < v1.heap.size from hx1.out.1.lt)
          rw [e2]
          clear e2
          have hx2 := hid (And.intro (hx1.out.1.keptAll q2) (hx1.out.2.trans (q2.mono hx1.out.2.size)))
          have hy2 := hid (And.intro (And.intro ((hx2.out.2.cell (p := ⟨G, lv * 2, none⟩) hG).trans hc'.out.1) ((hx2.out.2.cell (p := ⟨G, lv * 2 + 1, none⟩) hG).trans hc'.out.2)) (hx2.out.1.cell 1))
          refine hK.out _ _ hy2.out (fun _ => ?_)
          clear hK K
          obtain ⟨q0, q1, r0, r1⟩ := hp.out.factsL
          have hfin := hid (wiS_mk (N' := N') (g := g) (k' := k') (cap := cap) hx2.out.1 hp.out hlo.out hx2.out.2)
          have hfc1 := hid (And.intro (And.intro ((hfin.out.2.2.2.cell (p := ⟨G, lv * 2, none⟩) hG).trans hc'.out.1) ((hfin.out.2.2.2.cell (p := ⟨G, lv * 2 + 1, none⟩) hG).trans hc'.out.2)) (hfin.out.1.cell 1))
          refine wpAnyH_ready (rs := [9]) (by kernel_rfl) (by simp) ?_
          refine AllReadyH.cons rfl (fun K hK => ?_) ?_
          · go_simp
            refine hK.out _ _ hfc1.out (fun _ => ?_)
            clear hK K
            refine wpAnyH_done (by kernel_rfl) ?_ _
            go_wp2
            go_meet
            case rel => exact ⟨_, rfl, hfin⟩
          exact AllReadyH.nil
        exact AllReadyH.nil
      refine AllReadyH.cons rfl (fun K hK => ?_) ?_
      · go_simp
        obtain ⟨v1, e1⟩ : ∃ v, World.alloc v0 (.cells #[.int .i64 0, .slice none 0 0] 34) = v := ⟨_, rfl⟩
        have q1 : Below v0.heap.size v0 v1 := by rw [← e1]; exact (Below.refl _ _).alloc (Nat.le_refl _) _
        have hp := hid (show At v1 v0.heap.size #[.int .i64 0, .slice none 0 0] 34 by rw [← e1]; exact At.new v0 _ _)
        have hlo := hid (show w.heap.size < v0.heap.size from hx0.out.1.lt)
        rw [e1]
        clear e1
        have hx1 := hid (And.intro (hx0.out.1.keptAll q1) (hx0.out.2.trans (q1.mono hx0.out.2.size)))
        have hy1 := hid (And.intro (And.intro ((hx1.out.2.cell (p := ⟨G, lv * 2, none⟩) hG).trans hc'.out.1) ((hx1.out.2.cell (p := ⟨G, lv * 2 + 1, none⟩) hG).trans hc'.out.2)) (hx1.out.1.cell 1))
        refine hK.out _ _ hy1.out (fun _ => ?_)
        clear hK K
        refine wpAnyH_ready (rs := [7]) (by kernel_rfl) (by simp) ?_
        refine AllReadyH.cons rfl (fun K hK => ?_) ?_
        · rw [if_pos (by rfl)]
          go_simp
          refine Calls.mono (hup.out _) ?_
          rintro e v2 ⟨rfl, q2⟩
          replace hp := hid (hp.out.keptAll q2)
          have hx2 := hid (And.intro (hx1.out.1.keptAll q2) (hx1.out.2.trans (q2.mono hx1.out.2.size)))
          have hy2 := hid (And.intro (And.intro ((hx2.out.2.cell (p := ⟨G, lv * 2, none⟩) hG).trans hc'.out.1) ((hx2.out.2.cell (p := ⟨G, lv * 2 + 1, none⟩) hG).trans hc'.out.2)) (hx2.out.1.cell 1))
          refine hK.out _ _ hy2.out (fun _ => ?_)
          clear hK K
          obtain ⟨q0, q1, r0, r1⟩ := hp.out.factsL
          have hfin := hid (wiS_mk (N' := N') (g := g) (k' := k') (cap := cap) hx2.out.1 hp.out hlo.out hx2.out.2)
          have hfc1 := hid (And.intro (And.intro ((hfin.out.2.2.2.cell (p := ⟨G, lv * 2, none⟩) hG).trans hc'.out.1) ((hfin.out.2.2.2.cell (p := ⟨G, lv * 2 + 1, none⟩) hG).trans hc'.out.2)) (hfin.out.1.cell 1))
          refine wpAnyH_ready (rs := [9]) (by kernel_rfl) (by simp) ?_
          refine AllReadyH.cons rfl (fun K hK => ?_) ?_
          · go_simp
            refine hK.out _ _ hfc1.out (fun _ => ?_)
            clear hK K
            refine wpAnyH_done (by kernel_rfl) ?_ _
            go_wp2
            go_meet
            case rel => exact ⟨_, rfl, hfin⟩
          exact AllReadyH.nil
        exact AllReadyH.nil
      exact AllReadyH.nil
    case rest =>
      obtain ⟨bl, rfl, hS⟩ := hcut
      clear hup c0 c1 a1' a1 hB1'
      obtain ⟨S0, hS0⟩ := next_ex X N' f
      obtain ⟨F, hF⟩ : ∃ F, Hid (f.toNat = F) := ⟨_, rfl⟩
      obtain ⟨z0, z1, -, -⟩ := hS.out.1.factsL
      obtain ⟨y0, y1, -, -⟩ := hS.out.2.1.factsL
      have hNw : (Lit.int .i64 (N' : Int)).wf = true := WalkArith.wf_i64 (by omega)
      have hEff : Hid (Eff (N' : Int) k' X N') := .inl ⟨hform'.out, by simp⟩
      have hnx := hid (fun (W : World) (hb : Below wc.heap.size wc W) (i S : Int) (hi : (Lit.int .i64 i).wf = true) (hS1 : Hid (IsNext X N' i S)) => next_at (N' : Int) i S (some ⟨g, 0, none⟩) k' cap X N' hNw hi (by omega) hEff hS1 W (hT'.out.below (hS.out.2.2.2.trans (hb.mono hS.out.2.2.2.size)) h0'.out) (by have := h0'.out; have := hS.out.2.2.2.size; have := hb.size; omega) ((hW'.out.kept (hS.out.2.2.2.trans (hb.mono hS.out.2.2.2.size))).le hle.2))
      go_wp2_with fail
      refine Calls.mono (hnx.out wc (Below.refl _ _) f S0 hft.out.1 hS0) ?_
      rintro e w2 ⟨rfl, hb2⟩
      have hst : Hid (IsNext X N' (F : Int) S0) := by
        show IsNext _ _ _ _
        rcases hS0 with ⟨p, r1, r2, r3, r4, r5⟩ | ⟨r1, r2⟩
        · exact .inl ⟨p, r1, r2, r3, by have := hF.out; omega, fun q hq1 hq2 => r5 q (by have := hF.out; omega) hq2⟩
        · exact .inr ⟨r1, fun q hq1 hq2 => r2 q (by have := hF.out; omega) hq2⟩
      have hfl0 : Hid (fl (inW X f t) F = []) := by
        show _ = _
        rw [fl_skip (Nat.zero_le F) (fun q _ hq => by unfold inW; rw [decide_eq_false (by have := hF.out; omega)]; simp), fl_zero]
      have hb2' := hid hb2
      clear z0 z1 y0 y1 hS0 hb2
      go_wp2
      go_loopw [8, 9] (fun v ii wr => ∃ (i : Nat) (S : Int), ii = .int .i64 S ∧ Hid (IsNext X N' (i : Int) S) ∧ Hid (i = F ∨ i ≤ N') ∧ Hid (F ≤ i) ∧ Hid (wr.ownsRow wc.heap.size 3 1 v (fl (inW X f t) i).length (ints (fl (inW X f t) i))) ∧ Hid (Below wc.heap.size wc wr)) (fun _ ii _ => wiM N' ii)
      case atStart => exact ⟨F, S0, rfl, hst, .inl rfl, Nat.le_refl _, by rw [hfl0.out]; exact World.ownsRow_nil _ _ _ _, hb2'⟩
      case round =>
        obtain ⟨i, S, rfl, hI, hiF, hFi, hown, hbr⟩ := hrel
        obtain ⟨z0, z1, -, -⟩ := (hS.out.kept hbr.out).1.factsL
        have hend : Hid ((S = -1 ∨ t ≤ S) → fl (inW X f t) i = fl (inW X f t) N) := fun hx => by
          have hlo : ∀ q, i ≤ q → q < N → inW X f t q = false := fun q h1 h2 => by
            unfold inW
            by_cases hq : q < N'
            · rcases hI.out with ⟨p, r1, r2, r3, r4, r5⟩ | ⟨r1, r2⟩
              · by_cases hqp : q < p
                · rw [r5 q (by omega) hqp]; rfl
                · rw [decide_eq_false (show ¬ (q : Int) < t by omega)]; simp
              · rw [r2 q (by omega) hq]; rfl
            · rw [decide_eq_false (show ¬ (q : Int) < t by have := hU'.out.past (by omega) h2; omega)]; simp
          by_cases hiN : i ≤ N
          · exact (fl_skip hiN hlo).symm
          · refine fl_skip (by omega) (fun q h1 h2 => ?_)
            have he : i = F := by
              rcases hiF.out with h | h
              · exact h
              · omega
            unfold inW
            rw [decide_eq_false (show ¬ f ≤ (q : Int) by have := hF.out; omega)]
            simp
        have hr := hI.out.range
        by_cases hS0 : S < 0
        · have hS1 : S = -1 := by omega
          subst hS1
          have he := hend.out (.inl rfl)
          have he' := hid he
          clear he hend
          go_wp2
          go_ret
          exact ⟨_, rfl, by rw [← he'.out]; exact row_base hown.out hS.out.2.2.2.size, hS.out.2.2.2.trans (hbr.out.mono hS.out.2.2.2.size)⟩
        · obtain ⟨p, rfl⟩ := Int.eq_ofNat_of_zero_le (show 0 ≤ S by omega)
          by_cases hpt : (p : Int) < t
          · have hI2 := hI.out
            obtain ⟨hpN, hpb, hip, hz⟩ : p < N' ∧ bitAt X p = true ∧ i ≤ p ∧ ∀ q : Nat, i ≤ q → q < p → bitAt X q = false := by
              rcases hI2 with ⟨p', r1, r2, r3, r4, r5⟩ | ⟨r1, r2⟩
              · have : p' = p := by omega
                subst this
                exact ⟨r2, r3, by omega, fun q h1 h2 => r5 q (by omega) h2⟩
              · omega
            have hfp : f ≤ (p : Int) := by have := hFi.out; have := hF.out; omega
            have hon : inW X f t p = true := by unfold inW; rw [hpb, decide_eq_true hfp, decide_eq_true hpt]; rfl
            have hfl : Hid (fl (inW X f t) (p + 1) = fl (inW X f t) i ++ [p]) := by
              show _ = _
              rw [fl_t hon, fl_skip hip (fun q h1 h2 => by unfold inW; rw [hz q h1 h2]; rfl)]
            have hlen := fl_len (inW X f t) i
            obtain ⟨L, hL⟩ : ∃ L, Hid ((fl (inW X f t) i).length = L) := ⟨_, rfl⟩
            rw [hL.out] at hlen
            have hown2 : Hid (wr.ownsRow wc.heap.size 3 1 u8 L (ints (fl (inW X f t) i))) := by have h := hown.out; rw [hL.out] at h; exact h
            have hpl : (p : Int) ≤ 1125899906842624 := by omega
            have hbw := hbr.out.size
            obtain ⟨S', hS'⟩ := next_ex X N' ((p : Int) + 1)
            have hSr := hS'.range
            clear hend hI2 hz hon hown
            go_wp2_with (first
              | (at_builtin; refine wpList_append_own _ rfl _ _ 23 rfl wc.heap.size 3 i0 (.int .i64 0) 1 8 Tryd.underlying23 hi0 hz0 hz1 hz2 rfl (by decide) _ _ _ rfl (World.ownsRow.alloc hown2.out _) ⟨wr.heap.size, 0, none⟩ 1 1 [.int .i64 (p : Int)] rfl rfl (fun j u hj => by match j, hj with | 0, hj => simp at hj; subst hj; simp [Addr.add]) (fun u hu => by simp at hu; subst hu; rfl) (by unfold maxLen; omega) (by omega) (by simp; omega) ?_)
              | go_in)
            intro v' wn hown1 hgrow _
            have hbn := hid ((hbr.out.alloc hbr.out.size (.cells #[.int .i64 (p : Int)] 3)).grown hgrow (by simp; omega) (fun b e => by have := (hown2.out.lt b e).1; omega))
            have hown3 : Hid (wn.ownsRow wc.heap.size 3 1 v' (fl (inW X f t) (p + 1)).length (ints (fl (inW X f t) (p + 1)))) := by
              show World.ownsRow _ _ _ _ _ _ _
              rw [hfl.out, ints_snoc, List.length_append, hL.out]
              exact hown1
            clear hgrow hown1 hown2 z0 z1
            obtain ⟨z0, z1, -, -⟩ := (hS.out.kept hbn.out).1.factsL
            obtain ⟨y0, y1, -, -⟩ := (hS.out.kept hbn.out).2.1.factsL
            go_wp2_with fail
            refine Calls.mono (hnx.out wn hbn.out ((p : Int) + 1) S' (WalkArith.wf_i64 (by omega)) hS') ?_
            rintro e w3 ⟨rfl, hb3⟩
            have hbn3 : Hid (Below wc.heap.size wc w3) := hbn.out.trans (hb3.mono hbn.out.size)
            have hown4 := hid (row_keptAll hown3.out hb3)
            clear z0 z1 y0 y1 hb3 hown3
            go_wp2
            go_roundw
            case rel => exact ⟨p + 1, S', rfl, by show IsNext _ _ _ _; rw [show ((p + 1 : Nat) : Int) = (p : Int) + 1 by omega]; exact hS', .inr (by omega), by show _ ≤ _; have := hFi.out; omega, hown4, hbn3⟩
            case measure =>
              rcases hS' with ⟨p', rfl, r2, r3, r4, r5⟩ | ⟨rfl, r2⟩
              · show wiM N' (.int .i64 (p' : Int)) < wiM N' (.int .i64 (p : Int))
                rw [wiM_pos, wiM_pos]; omega
              · show wiM N' (.int .i64 (-1)) < wiM N' (.int .i64 (p : Int))
                rw [wiM_neg, wiM_pos]; omega
          · have he := hend.out (.inr (by omega))
            have he' := hid he
            have n3 : decide ((p : Int) < t) = false := by simp; omega
            clear he hend
            go_wp2
            go_ret
            exact ⟨_, rfl, by rw [← he'.out]; exact row_base hown.out hS.out.2.2.2.size, hS.out.2.2.2.trans (hbr.out.mono hS.out.2.2.2.size)⟩

set_option maxRecDepth 10000 in
set_option maxHeartbeats 1000000 in
theorem colons_of (x y : Value) (lv f t : Int) (w : World) (R : Value → World → Prop) (h : Hid (∀ W, Below w.heap.size w W → Calls Tryd.prog 37 #[x, .int .i64 lv, .agg #[.int .i64 f, .int .i64 t]] W fun e w' => ∃ v, e = .returned v ∧ R v w')) :
    Calls Tryd.prog 20 #[.agg #[x, y], .int .i64 lv, .agg #[.int .i64 f, .int .i64 t]] w fun e w' => ∃ v, e = .returned v ∧ R v w' := by
  go_enter Tryd.func20, Tryd.ntmps20
  go_wp2_with fail
  refine Calls.mono (h.out _ (by repeat (first | with_reducible exact Below.refl _ _ | with_reducible refine Below.setCell ?_ (by first | (simp; done) | (simp; omega)) _ | with_reducible refine below_drewN ?_ _ | with_reducible refine Below.alloc ?_ (by first | (simp; done) | (simp; omega)) _ | with_reducible refine Below.drew ?_))) ?_
  rintro e w1 ⟨v, rfl, hR⟩
  have hR' := hid hR
  clear hR
  go_wp2
  go_ret
  exact ⟨_, rfl, hR'.out⟩
set_option maxRecDepth 10000 in
set_option maxHeartbeats 1000000 in
theorem commas_of (x y : Value) (lv f t : Int) (w : World) (R : Value → World → Prop) (h : Hid (∀ W, Below w.heap.size w W → Calls Tryd.prog 37 #[y, .int .i64 lv, .agg #[.int .i64 f, .int .i64 t]] W fun e w' => ∃ v, e = .returned v ∧ R v w')) :
    Calls Tryd.prog 21 #[.agg #[x, y], .int .i64 lv, .agg #[.int .i64 f, .int .i64 t]] w fun e w' => ∃ v, e = .returned v ∧ R v w' := by
  go_enter Tryd.func21, Tryd.ntmps21
  go_wp2_with fail
  refine Calls.mono (h.out _ (by repeat (first | with_reducible exact Below.refl _ _ | with_reducible refine Below.setCell ?_ (by first | (simp; done) | (simp; omega)) _ | with_reducible refine below_drewN ?_ _ | with_reducible refine Below.alloc ?_ (by first | (simp; done) | (simp; omega)) _ | with_reducible refine Below.drew ?_))) ?_
  rintro e w1 ⟨v, rfl, hR⟩
  have hR' := hid hR
  clear hR
  go_wp2
  go_ret
  exact ⟨_, rfl, hR'.out⟩
/-- The list of places, owned from w on. -/
def PlaW (w : World) (L : List Nat) (v : Value) (W : World) : Prop := W.ownsRow w.heap.size 3 1 v L.length (ints L) ∧ Below w.heap.size w W
/-- Of the rows that Build has made. -/
theorem within_lv (A m n : Nat) (F : Nat → Nat → Nat) (G : Nat → Nat → Bool) (lv : Nat) (f t : Int) (hn : n ≤ 1099511627776) (hm : m ≤ 64) (hlv : lv < m) (hf : (Lit.int .i64 f).wf = true) (ht : (Lit.int .i64 t).wf = true) (hF : ∀ k j, F k j = rowOf (G k) n j) (w : World) (hT : Tab w) (h0 : 0 < w.heap.size) (hA : LvAt w A m n F) (W : World) (hb : Below w.heap.size w W) :
    Calls Tryd.prog 37 #[.slice (some ⟨A, 0, none⟩) m m, .int .i64 ((lv : Int) + 1), .agg #[.int .i64 f, .int .i64 t]] W fun e w' => ∃ v, e = .returned v ∧ PlaW w (fl (fun i => G lv i && (decide (f ≤ (i : Int)) && decide ((i : Int) < t))) n) v w' := by
  have hA' := hA.kept hb
  have hform : formed (n : Int) (need n) (rowOf (G lv) n) := rowOf_formed _ _
  have hneed : need n ≤ 17179869184 := by unfold need; omega
  have hrow : At W (A + 1 + lv) (rowCells (need n) (rowOf (G lv) n)) 22 := by rw [rowCells_congr (Y' := F lv) (fun j _ => (hF lv j).symm)]; exact hA'.2 lv hlv
  refine Calls.mono (within_calls A m m lv f t (n : Int) (A + 1 + lv) (need n) (need n) (rowOf (G lv) n) n (by omega) hlv hf ht (WalkArith.wf_i64 (by omega)) hneed (Nat.le_refl _) (.inl ⟨hform, by simp⟩) W (hT.below hb h0) (by have := hb.size; omega) (hA'.cells hlv) (hrow.wds (fun j _ => rowOf_lt _ _ _) (Nat.le_refl _))) ?_
  rintro e w' ⟨v, rfl, hown, hb2⟩
  rw [fl_congr (Q := fun i => G lv i && (decide (f ≤ (i : Int)) && decide ((i : Int) < t))) (fun i hi => by unfold inW; rw [rowOf_bit, decide_eq_true hi, Bool.true_and])] at hown
  exact ⟨v, rfl, row_base hown hb.size, hb.trans (hb2.mono hb.size)⟩
end Go.Proofs.YtomeaejjdjidlaaDoor
