/-
  What decimal.Read and decimal.Of answer.
-/
import Derived.Test.YtheeonlfbnkhgaaDoorDecWorth
namespace Go.Proofs.YtheeonlfbnkhgaaDoor
open Go.RowKit Go.Shelf

theorem lk_extract (s : ByteArray) (a b i : Nat) (h : i < b - a) (hb : b ≤ s.size) : lk (s.extract a b) i = lk s (a + i) := by
  have h1 : i < (s.extract a b).size := by rw [ByteArray.size_extract]; omega
  rw [lk_at _ i h1, lk_at s (a + i) (by omega), ByteArray.getElem_extract]
/-- What the parts are. -/
theorem num_of {s : ByteArray} {p e : Nat} {n : Num} (h : scanS s p = (some n, e)) (hp : p ≤ s.size) :
    n.wh.size + n.be.size ≤ s.size ∧ n.pw.size ≤ s.size ∧ (∀ i, i < n.pw.size → dgB (lk n.pw i) = true) := by
  unfold scanS at h
  split at h
  · cases h
  · split at h
    · cases h
    · split at h
      · cases h
      · simp only [Prod.mk.injEq, Option.some.injEq] at h
        obtain ⟨rfl, rfl⟩ := h
        have hA := scA_le s p hp
        have hB := scB_le s p hp
        have hAB := scA_B s p
        have hC := scC_le s p hp
        refine ⟨?_, ?_, ?_⟩
        · show (s.extract _ _).size + (scBe s p).size ≤ _
          rw [ByteArray.size_extract]
          unfold scBe
          split
          · rename_i h1
            rw [ByteArray.size_extract]
            have h2 : scC s p = rn s (scB s p + 1) := by rw [scC, if_pos h1]
            have h3 := rn_ge s (scB s p + 1)
            omega
          · show _ + 0 ≤ _
            omega
        · show (scPw s p).size ≤ _
          unfold scPw
          split
          · rw [ByteArray.size_extract]; omega
          · exact Nat.zero_le _
        · show ∀ i, i < (scPw s p).size → dgB (lk (scPw s p) i) = true
          unfold scPw
          split
          · rename_i h1
            have h2 : scH s p = rn s (scF s p) := by rw [scH, if_pos h1]
            have h3 := scF_le s p h1
            have h4 := rn_le s _ h3
            intro i hi
            rw [ByteArray.size_extract] at hi
            rw [lk_extract s _ _ i (by omega) (by omega)]
            exact rn_dig s (scF s p) (scF s p + i) (by omega) (by omega)
          · intro i hi
            exact absurd hi (Nat.not_lt_zero _)
/-- The end lies within the text. -/
theorem scan_end {s : ByteArray} {p : Nat} (hp : p ≤ s.size) : (scanS s p).2 ≤ s.size := by
  have hA := scA_le s p hp
  have hB := scB_le s p hp
  have hC := scC_le s p hp
  unfold scanS
  split
  · exact hA
  · split
    · rename_i h1
      have := lk_in (s := s) (i := scB s p) (by omega)
      show scB s p + 1 ≤ _
      omega
    · split
      · rename_i h1
        exact scF_le s p h1.1
      · show scH s p ≤ _
        unfold scH
        split
        · rename_i h1
          exact rn_le s _ (scF_le s p h1)
        · exact hC

def readV (s : ByteArray) (p : Nat) : Value := .tuple #[decV (readS s p).1, .int .i64 ((readS s p).2.1 : Int), .int .i64 ((readS s p).2.2 : Int)]
set_option maxRecDepth 10000 in
set_option maxHeartbeats 4000000 in
theorem read_calls (s : ByteArray) (p : Nat) (hs : s.size ≤ 281474976710656) (hp : p ≤ s.size) (w : World) :
    Calls Tryd.prog 31 #[.string s, .int .i64 (p : Int)] w fun e w' => e = .returned (readV s p) ∧ Below w.heap.size w w' := by
  have hsc := hid (fun w1 => scan_calls s p (by omega) hp w1)
  have e1 : decide ((p : Int) < 0) = false := by simp
  have e2 : decide ((s.size : Int) < (p : Int)) = false := by simp; omega
  have D0 := hid (show OwnD w w.heap.size false ⟨#[]⟩ 0 (w.alloc (.cells #[.bool false, .string ⟨#[]⟩, .int .i64 0] 23)) from ⟨Nat.le_refl _, At.new w _ _, by repeat (first | with_reducible exact Below.refl _ _ | with_reducible refine Below.setCell ?_ (by first | (simp; done) | (simp; omega)) _ | with_reducible refine below_drewN ?_ _ | with_reducible refine Below.alloc ?_ (by first | (simp; done) | (simp; omega)) _ | with_reducible refine Below.drew ?_)⟩)
  obtain ⟨r, hr⟩ : ∃ r, scanS s p = r := ⟨_, rfl⟩
  obtain ⟨on, en⟩ := r
  have hen : en ≤ s.size := by have := scan_end (s := s) hp; rw [hr] at this; exact this
  go_enter Tryd.func31, Tryd.ntmps31
  go_wp2_with fail
  refine Calls.mono (hsc.out _) ?_
  rintro e w1 ⟨rfl, hb⟩
  have D1 := hid (D0.out.kept hb)
  clear D0 hsc hb e1 e2
  obtain ⟨⟨c0, c1, c2⟩, f0, f1, f2⟩ := D1.out.facts
  cases on with
  | none =>
    rw [scV_none hr]
    have hv := hid (show readV s p = .tuple #[.agg #[.bool false, .string ⟨#[]⟩, .int .i64 0], .int .i64 (en : Int), .int .i64 110] by rw [readV, readS, hr]; rfl)
    clear hr
    dsimp only [numV, noNum]
    have D2 := hid (D1.out.kept (w' := w1.alloc (.cells #[.bool false, .string ⟨#[]⟩, .string ⟨#[]⟩, .bool false, .string ⟨#[]⟩] 67)) ((Below.refl _ _).alloc (Nat.le_refl _) _))
    have hlt := D1.out.2.1.lt
    clear D1 c0 c1 c2 f0 f1 f2
    go_upto_region 5 with fail
    generalize w1.alloc (.cells #[.bool false, .string ⟨#[]⟩, .string ⟨#[]⟩, .bool false, .string ⟨#[]⟩] 67) = w2 at D2 ⊢
    obtain ⟨⟨c0, c1, c2⟩, f0, f1, f2⟩ := D2.out.facts
    go_wp2
    refine ret_dec3 rfl rfl (D2.out.put _ _ _).2.1 rfl ⟨?_, (D2.out.put _ _ _).2.2⟩
    rw [hv.out]
    rfl
  | some n =>
    rw [scV_some hr]
    obtain ⟨z1, z2, z3⟩ := num_of hr hp
    have hwc := hid (fun w1 => worth_calls n (by omega) (by omega) (by omega) (by omega) z3 w1)
    obtain ⟨d, er, hd⟩ : ∃ d er, wrV n = .tuple #[decV d, .int .i64 (er : Int)] ∧ readV s p = .tuple #[decV d, .int .i64 (en : Int), .int .i64 (er : Int)] := by
      have h1 : readS s p = match worthS n with | none => (zeroD, en, 111) | some d => (d, en, 0) := by rw [readS, hr]; rfl
      cases hw : worthS n with
      | none => rw [hw] at h1; exact ⟨zeroD, (111 : Nat), by rw [wrV, hw]; rfl, by rw [readV, h1]⟩
      | some d => rw [hw] at h1; exact ⟨d, (0 : Nat), by rw [wrV, hw]; rfl, by rw [readV, h1]⟩
    have hv := hid hd.2
    rw [hd.1] at hwc
    obtain ⟨dn, dd, dx⟩ := d
    obtain ⟨ng, t1, t2, dw, t⟩ := n
    clear hr hd z1 z2 z3
    dsimp only [numV, decV] at hwc hv ⊢
    obtain ⟨TD, hTD⟩ : ∃ TD : ByteArray, (⟨dd.toArray⟩ : ByteArray) = TD := ⟨_, rfl⟩
    rw [hTD] at hwc hv
    clear hTD
    have D2 := hid (D1.out.kept (w' := w1.alloc (.cells #[.bool ng, .string t1, .string t2, .bool dw, .string t] 67)) ((Below.refl _ _).alloc (Nat.le_refl _) _))
    have hlt := hid D1.out.2.1.lt
    clear D1 c0 c1 c2 f0 f1 f2
    go_wp2_with fail
    refine Calls.mono (hwc.out _) ?_
    rintro e w3 ⟨rfl, hb⟩
    have D3 := hid (D2.out.kept hb)
    clear D2 hwc hb
    obtain ⟨⟨c0, c1, c2⟩, f0, f1, f2⟩ := D3.out.facts
    have D4 := hid (D3.out.put dn TD dx)
    go_upto_region 7 with fail
    generalize ((w3.setCell ⟨w.heap.size, 0, none⟩ (.bool dn)).setCell ⟨w.heap.size, 1, none⟩ (.string TD)).setCell ⟨w.heap.size, 2, none⟩ (.int .i64 dx) = w4 at D4 ⊢
    clear c0 c1 c2 f0 f1 f2 D3
    obtain ⟨⟨c0, c1, c2⟩, f0, f1, f2⟩ := D4.out.facts
    go_wp2
    refine ret_dec3 rfl rfl (D4.out.put _ _ _).2.1 rfl ⟨?_, (D4.out.put _ _ _).2.2⟩
    rw [hv.out]
    rfl

theorem ofS_zero (s : ByteArray) (h : (readS s 0).2.1 ≠ s.size) : ofS s = (zeroD, 110) := by rw [ofS, if_neg h]
theorem ofS_same (s : ByteArray) (h : (readS s 0).2.1 = s.size) : ofS s = ((readS s 0).1, (readS s 0).2.2) := by rw [ofS, if_pos h]
theorem read_end {s : ByteArray} {p : Nat} (hp : p ≤ s.size) : (readS s p).2.1 ≤ s.size := by
  have h := scan_end (s := s) hp
  unfold readS
  split
  · exact h
  · split <;> exact h
def ofV (s : ByteArray) : Value := .tuple #[decV (ofS s).1, .int .i64 ((ofS s).2 : Int)]
set_option maxRecDepth 10000 in
set_option maxHeartbeats 4000000 in
theorem of_calls (s : ByteArray) (hs : s.size ≤ 281474976710656) (w : World) :
    Calls Tryd.prog 10 #[.string s] w fun e w' => e = .returned (ofV s) ∧ Below w.heap.size w w' := by
  have hrc := hid (fun w1 => read_calls s 0 hs (Nat.zero_le _) w1)
  have hen := read_end (s := s) (Nat.zero_le _)
  have D0 := hid (show OwnD w w.heap.size false ⟨#[]⟩ 0 (w.alloc (.cells #[.bool false, .string ⟨#[]⟩, .int .i64 0] 23)) from ⟨Nat.le_refl _, At.new w _ _, by repeat (first | with_reducible exact Below.refl _ _ | with_reducible refine Below.setCell ?_ (by first | (simp; done) | (simp; omega)) _ | with_reducible refine below_drewN ?_ _ | with_reducible refine Below.alloc ?_ (by first | (simp; done) | (simp; omega)) _ | with_reducible refine Below.drew ?_)⟩)
  obtain ⟨r, hr⟩ : ∃ r, readS s 0 = r := ⟨_, rfl⟩
  obtain ⟨⟨dn, dd, dx⟩, en, er⟩ := r
  have hrc2 := hrc.out
  unfold readV at hrc2
  rw [hr] at hrc2 hen
  dsimp only [decV] at hrc2 hen
  have hfin : (en ≠ s.size → ofV s = .tuple #[.agg #[.bool false, .string ⟨#[]⟩, .int .i64 0], .int .i64 110]) ∧ (en = s.size → ofV s = .tuple #[.agg #[.bool dn, .string ⟨dd.toArray⟩, .int .i64 dx], .int .i64 (er : Int)]) := by
    constructor
    · intro h; rw [ofV, ofS_zero s (by rw [hr]; exact h)]; rfl
    · intro h; rw [ofV, ofS_same s (by rw [hr]; exact h), hr]; rfl
  obtain ⟨TD, hTD⟩ : ∃ TD : ByteArray, (⟨dd.toArray⟩ : ByteArray) = TD := ⟨_, rfl⟩
  rw [hTD] at hrc2 hfin
  have hrc3 := hid hrc2
  have hfin' := hid hfin
  clear hTD hrc hrc2 hr hfin
  go_enter Tryd.func10, Tryd.ntmps10
  go_wp2_with fail
  refine Calls.mono (hrc3.out _) ?_
  rintro e w1 ⟨rfl, hb⟩
  have D1 := hid (D0.out.kept hb)
  clear D0 hrc3 hb
  have B1 := hid (At.new w1 #[.bool dn, .string TD, .int .i64 dx] 23)
  have D2 := hid (D1.out.kept (w' := w1.alloc (.cells #[.bool dn, .string TD, .int .i64 dx] 23)) ((Below.refl _ _).alloc (Nat.le_refl _) _))
  have hlt := hid D1.out.2.1.lt
  go_upto_region 2 with fail
  generalize hb1 : w1.heap.size = b1 at B1 hlt ⊢
  generalize w1.alloc (.cells #[.bool dn, .string TD, .int .i64 dx] 23) = w2 at B1 D2 ⊢
  clear D1 hb1
  obtain ⟨⟨c0, c1, c2⟩, f0, f1, f2⟩ := D2.out.facts
  by_cases he : en = s.size
  · have e1 : ((en : Int) != (s.size : Int)) = false := by simp [he]
    have hv := hid (hfin'.out.2 he)
    have g0 : w2.cell? ⟨b1, 0, none⟩ = some (.bool dn) := B1.out.cell 0
    have g1 : w2.cell? ⟨b1, 1, none⟩ = some (.string TD) := B1.out.cell 1
    have g2 : w2.cell? ⟨b1, 2, none⟩ = some (.int .i64 dx) := B1.out.cell 2
    clear hfin' he
    go_wp2
    refine ret_dec rfl rfl (D2.out.put _ _ _).2.1 rfl ⟨?_, (D2.out.put _ _ _).2.2⟩
    rw [hv.out]
    rfl
  · have e1 : ((en : Int) != (s.size : Int)) = true := by simp; omega
    have hv := hid (hfin'.out.1 he)
    clear hfin' he
    go_wp2
    refine ret_dec rfl rfl (D2.out.put _ _ _).2.1 rfl ⟨?_, (D2.out.put _ _ _).2.2⟩
    rw [hv.out]
    rfl
end Go.Proofs.YtheeonlfbnkhgaaDoor
