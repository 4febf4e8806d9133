/-
 What a raw name means, by the program: meant.
-/
import Derived.Test.YtgpagaielnemmaaDoorPtD
namespace Go.Proofs.YtgpagaielnemmaaDoor
open Go.RowKit Go.Shelf
/-- A builder that is new. -/
theorem BdI.fresh0 (w : World) : BdI (w.alloc (.cells #[.pointer none, .slice none 0 0] 60)) w.heap.size (w.heap.size + 1) [] :=
 ⟨_, _, At.new w _ _, .inl rfl, by simpa [Lib.byteCells] using World.ownsRow_nil (w.alloc (.cells #[.pointer none, .slice none 0 0] 60)) (w.heap.size + 1) 5 1⟩
def szOf : Value → Nat
 | .string s => s.size
 | _ => 0
/-- What is known while a name is read: what stands in the builder, what is left. -/
def MnS (l acc r : List UInt8) (more : Bool) : Prop := (more = true → mnL l = (mnL (126 :: r)).map (acc ++ ·)) ∧ (more = false → mnL l = some acc) ∧ acc.length + r.length ≤ l.length
theorem MnS.start_no {l : List UInt8} (h : ∀ x ∈ l, x ≠ 126) : MnS l l [] false := ⟨fun h => (by cases h), fun _ => by have := mnL_pre l h []; simpa [mnL] using this, by simp⟩
theorem MnS.start_yes {a r : List UInt8} (h : ∀ x ∈ a, x ≠ 126) : MnS (a ++ 126 :: r) a r true := ⟨fun _ => mnL_pre a h _, fun h => (by cases h), by simp⟩
theorem MnS.bad {l acc r : List UInt8} (h : MnS l acc r true) (hr : (tlC r).2 = false) : mnL l = none := by
 rw [h.1 rfl]
 cases r with
 | nil => rw [mnL_none]; rfl
 | cons d t =>
  rw [mnL_til]
  have h1 : d ≠ 49 := fun e => by subst e; simp [tlC] at hr
  have h2 : d ≠ 48 := fun e => by subst e; simp [tlC] at hr
  rw [if_neg h2, if_neg h1]
  rfl
theorem MnS.next {l acc r : List UInt8} (h : MnS l acc r true) (hr : (tlC r).2 = true) : ∃ d t, r = d :: t ∧ (tlC r).1 < 256 ∧ mnL l = (mnL t).map ((acc ++ [UInt8.ofNat (tlC r).1]) ++ ·) := by
 cases r with
 | nil => cases hr
 | cons d t =>
  by_cases h1 : d = 49
  ·subst h1
   refine ⟨49, t, rfl, show (47 : Nat) < 256 by decide, ?_⟩
   rw [h.1 rfl, mnL_til, if_neg (by decide), if_pos rfl]
   show _ = Option.map (fun x => acc ++ [47] ++ x) (mnL t)
   cases mnL t <;> simp
  ·by_cases h2 : d = 48
   ·subst h2
    refine ⟨48, t, rfl, show (126 : Nat) < 256 by decide, ?_⟩
    rw [h.1 rfl, mnL_til, if_pos rfl]
    show _ = Option.map (fun x => acc ++ [126] ++ x) (mnL t)
    cases mnL t <;> simp
   ·exfalso
    simp [tlC, h1, h2] at hr
theorem MnS.go_no {l acc t : List UInt8} (h : mnL l = (mnL t).map (acc ++ ·)) (ht : ∀ x ∈ t, x ≠ 126) (hl : acc.length + t.length ≤ l.length) : MnS l (acc ++ t) [] false :=
 ⟨fun h => (by cases h), fun _ => by rw [h]; have := mnL_pre t ht []; simp [mnL] at this; rw [this]; rfl, by simp; omega⟩
theorem MnS.go_yes {l acc a r : List UInt8} (h : mnL l = (mnL (a ++ 126 :: r)).map (acc ++ ·)) (ht : ∀ x ∈ a, x ≠ 126) (hl : acc.length + (a ++ 126 :: r).length ≤ l.length) : MnS l (acc ++ a) r true :=
 ⟨fun _ => by rw [h, mnL_pre a ht]; cases mnL (126 :: r) <;> simp, fun h => (by cases h), by simp at hl ⊢; omega⟩
/-- Whatever there is to be cut. -/
theorem cutT_any (l : List UInt8) (hl : l.length ≤ 4294967296) : ∃ a r more, Hid (∀ w : World, Calls Tryd.prog 54 #[.string (mkL l), .string ⟨#[126]⟩] w fun e w' => e = .returned (.tuple #[.string (mkL a), .string (mkL r), .bool more]) ∧ Below w.heap.size w w') ∧ Hid (a.length + r.length ≤ l.length) ∧ Hid (MnS l a r more) ∧ Hid (∀ (L acc : List UInt8), mnL L = (mnL l).map (acc ++ ·) → acc.length + l.length ≤ L.length → MnS L (acc ++ a) r more) := by
 rcases first_til l with h | ⟨a, r, rfl, h⟩
 ·exact ⟨l, [], false, hid (fun w => cutT_no l h w), hid (by simp), hid (MnS.start_no h), hid (fun L acc h1 h2 => MnS.go_no h1 h h2)⟩
 ·exact ⟨a, r, true, hid (fun w => cutT_yes a r hl h w), hid (by simp), hid (MnS.start_yes h), hid (fun L acc h1 h2 => MnS.go_yes h1 h h2)⟩
set_option maxRecDepth 10000 in
set_option maxHeartbeats 4000000 in
theorem meant_calls (l : List UInt8) (hl : l.length ≤ 4294967296) (w : World) : Calls Tryd.prog 39 #[.string (mkL l)] w fun e w' => e = .returned (.tuple #[.string (mkL ((mnL l).getD [])), .bool (mnL l).isSome]) ∧ Below w.heap.size w w' := by
 obtain ⟨a, r, more, hc, hz, hm0, -⟩ := cutT_any l hl
 obtain ⟨m, hm⟩ : ∃ m, Hid (w.heap.size = m) := ⟨_, rfl⟩
 have D0 := hid (BdI.fresh0 w)
 have al := hid (show Below w.heap.size w (w.alloc (.cells #[.pointer none, .slice none 0 0] 60)) from (Below.refl _ _).alloc (Nat.le_refl _) _)
 have sz0 := hid (show (w.alloc (.cells #[.pointer none, .slice none 0 0] 60)).heap.size = m + 1 by rw [World.size_alloc, hm.out])
 rw [hm.out] at D0 al
 obtain ⟨s0, hs0⟩ : ∃ s, Hid (mkL l = s) := ⟨_, rfl⟩
 rw [hs0.out] at hc ⊢
 have hl' := hid hl
 clear hl hs0
 go_enter Tryd.func39, Tryd.ntmps39
 go_wp2_with fail
 refine Calls.mono (hc.out _) ?_
 rintro e w1 ⟨rfl, b1⟩
 rw [hm.out]
 have D1 := hid (D0.out.kept b1)
 have B1 := hid (al.out.trans (b1.mono (by rw [sz0.out]; omega)))
 have z1 := hid (Nat.le_trans (Nat.le_of_eq sz0.out.symm) b1.size)
 clear b1 D0 al sz0 hc
 go_wp2_with fail
 refine Calls.mono (bstr_calls m (m + 1) [] (mkL a) (Nat.lt_succ_self _) (by have := hz.out; have := hl'.out; rw [mkL_size]; simp; omega) _ D1.out z1.out) ?_
 rintro e w2 ⟨rfl, d2, b2⟩
 have D2 := hid (show BdI w2 m (m + 1) a by simpa [data_mkL] using d2)
 have B2 := hid (B1.out.trans b2)
 have z2 := hid (Nat.le_trans z1.out b2.size)
 clear d2 b2 D1 B1 z1
 go_wp2
 go_loopw [6, 7] (fun rr mm wr => ∃ (acc r : List UInt8) (more : Bool), rr = .string (mkL r) ∧ mm = .bool more ∧ Hid (MnS l acc r more) ∧ Hid (BdI wr m (m + 1) acc) ∧ Hid (Below m w wr) ∧ Hid (m + 1 ≤ wr.heap.size)) (fun rr _ _ => szOf rr)
 case atStart => exact ⟨a, r, more, rfl, rfl, hm0, D2, B2, z2⟩
 case round =>
  clear D2 B2 z2 hm0 hz
  obtain ⟨acc, r, more, rfl, rfl, hM, hD, hB, hz⟩ := hrel
  cases more with
  | false =>
   have hv := hid (hM.out.2.1 rfl)
   go_wp2_with fail
   refine Calls.mono (bstring_calls m (m + 1) m acc _ hD.out (Nat.le_succ _) hz.out) ?_
   rintro e w3 ⟨rfl, b3, -⟩
   have B3 := hid (hB.out.trans b3)
   clear b3
   go_wp2
   go_ret2
   exact ⟨by rw [hv.out]; rfl, by rw [hm.out]; exact B3.out⟩
  | true =>
   have ct := hid (fun u : World => tilde_calls r u)
   cases hok : (tlC r).2 with
   | false =>
    have hv := hid (hM.out.bad hok)
    rw [hok] at ct
    obtain ⟨c, hc⟩ : ∃ c, (tlC r).1 = c := ⟨_, rfl⟩
    rw [hc] at ct
    clear hok hc
    go_wp2_with fail
    refine Calls.mono (ct.out _) ?_
    rintro e w3 ⟨rfl, rfl⟩
    go_wp2
    go_ret2
    exact ⟨by rw [hv.out]; rfl, by rw [hm.out]; exact hB.out⟩
   | true =>
    obtain ⟨d, t, hr, hc256, hmn⟩ := hM.out.next hok
    have hlen := hM.out.2.2
    rw [hok] at ct
    obtain ⟨c, hc⟩ : ∃ c, (tlC r).1 = c := ⟨_, rfl⟩
    rw [hc] at ct hc256 hmn
    have hll := hl'.out
    have hrl : r.length = t.length + 1 := by rw [hr]; rfl
    obtain ⟨a', r', more', hcc, hz', -, hgo⟩ := cutT_any t (by omega)
    have e1 : (mkL r).extract 1 (mkL r).size = mkL t := by
     rw [mkL_ext, mkL_size, hr]
     congr 1
     simp
    have e1' := hid e1
    have hS := hid (hgo.out l _ hmn (by simp; omega))
    have hs1 : 1 ≤ (mkL r).size := by rw [mkL_size]; omega
    have hsr := hid (show (mkL r').size < (mkL r).size by rw [mkL_size, mkL_size]; have := hz'.out; omega)
    have hla := hid (show acc.length + 1 + (mkL a').size ≤ 140737488355328 by rw [mkL_size]; have := hz'.out; omega)
    rw [← e1] at hcc
    obtain ⟨s, hs⟩ : ∃ s, mkL r = s := ⟨_, rfl⟩
    rw [hs] at ct hcc hs1 hsr ⊢
    clear hok hc e1 e1' hs hr hmn hlen hll hrl hgo hM hz'
    go_wp2_with fail
    refine Calls.mono (ct.out _) ?_
    rintro e w3 ⟨rfl, rfl⟩
    go_wp2_with fail
    refine Calls.mono (bbyte_calls m (m + 1) acc (UInt8.ofNat c) (c : Int) (by simp [UInt8.toNat_ofNat']; omega) (Nat.lt_succ_self _) (by have := hla.out; omega) _ hD.out hz.out) ?_
    rintro e w4 ⟨rfl, d4, b4⟩
    have D4 := hid d4
    have B4 := hid (hB.out.trans b4)
    have z4 := hid (Nat.le_trans hz.out b4.size)
    clear d4 b4 hD hB hz
    go_wp2_with fail
    refine Calls.mono (hcc.out _) ?_
    rintro e w5 ⟨rfl, b5⟩
    have D5 := hid (D4.out.kept b5)
    have B5 := hid (B4.out.trans (b5.mono (by have := z4.out; omega)))
    have z5 := hid (Nat.le_trans z4.out b5.size)
    clear b5 D4 B4 z4
    go_wp2_with fail
    refine Calls.mono (bstr_calls m (m + 1) (acc ++ [UInt8.ofNat c]) (mkL a') (Nat.lt_succ_self _) (by have := hla.out; simp; omega) _ D5.out z5.out) ?_
    rintro e w6 ⟨rfl, d6, b6⟩
    have D6 := hid (show BdI w6 m (m + 1) (acc ++ [UInt8.ofNat c] ++ a') by simpa [data_mkL] using d6)
    have B6 := hid (B5.out.trans b6)
    have z6 := hid (Nat.le_trans z5.out b6.size)
    clear d6 b6 D5 B5 z5
    go_wp2
    go_roundw
    case rel => exact ⟨_, r', more', rfl, rfl, hS, D6, B6, z6⟩
    case measure => exact hsr.out
end Go.Proofs.YtgpagaielnemmaaDoor
