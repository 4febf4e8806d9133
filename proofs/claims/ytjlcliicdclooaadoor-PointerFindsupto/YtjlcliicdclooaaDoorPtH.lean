/-
 The names of a pointer, by the reference: from the left to the right.
-/
import Derived.Test.YtjlcliicdclooaaDoorPtG
import Derived.Laws.Concat
namespace Go.Proofs.YtjlcliicdclooaaDoor
open Go.RowKit Go.Shelf
theorem mkL_app (a b : List UInt8) : mkL a ++ mkL b = mkL (a ++ b) := by
 apply ByteArray.ext
 apply Array.toList_inj.1
 rw [ByteArray.data_append, Array.toList_append, data_mkL, data_mkL, data_mkL]
/-- What is known on the way. -/
def RfS (l : List UInt8) (out : List (List UInt8)) (q : Nat) : Prop := q ≤ l.length ∧ rfL out (l.drop q) = ptrL l ∧ out.length ≤ q ∧ (0 < q → out ≠ []) ∧ ∀ a ∈ out, a.length ≤ q
theorem RfS.start {l : List UInt8} (h : ∀ c ∈ l.head?, c = 47) : RfS l [] 0 := ⟨Nat.zero_le _, rfL_ptr l h, Nat.le_refl _, fun h => by omega, fun a h => by simp at h⟩
theorem drop_at {l : List UInt8} {q : Nat} {c : UInt8} (h : l[q]? = some c) : l.drop q = c :: l.drop (q + 1) := by
 obtain ⟨h1, h2⟩ := List.getElem?_eq_some_iff.1 h
 rw [List.drop_eq_getElem_cons h1, h2]
theorem RfS.sl {l : List UInt8} {out : List (List UInt8)} {q : Nat} (h : RfS l out q) (hc : l[q]? = some 47) : RfS l (out ++ [[]]) (q + 1) := by
 obtain ⟨h1, h2, h3, h4, h5⟩ := h
 have hq := (List.getElem?_eq_some_iff.1 hc).1
 rw [drop_at hc, rfL_sl] at h2
 refine ⟨hq, h2, by simp; omega, fun _ => by simp, fun a ha => ?_⟩
 simp at ha
 rcases ha with ha | rfl
 ·have := h5 a ha; omega
 ·simp
theorem RfS.last {l : List UInt8} {out : List (List UInt8)} {q : Nat} (h : RfS l out q) (hh : ∀ c ∈ l.head?, c = 47) {c : UInt8} (hc : l[q]? = some c) (hc47 : c ≠ 47) : ∃ o a, out = o ++ [a] := by
 obtain ⟨h1, h2, h3, h4, h5⟩ := h
 have hq0 : 0 < q := by
  rcases Nat.eq_zero_or_pos q with rfl | h
  ·exfalso
   cases l with
   | nil => simp at hc
   | cons d t =>
    simp at hc
    exact hc47 (by rw [← hc]; exact hh d rfl)
  ·exact h
 have := h4 hq0
 exact ⟨out.dropLast, out.getLast this, (List.dropLast_concat_getLast this).symm⟩
theorem RfS.plain {l : List UInt8} {o : List (List UInt8)} {a : List UInt8} {q : Nat} (h : RfS l (o ++ [a]) q) {c : UInt8} (hc : l[q]? = some c) (h1 : c ≠ 47) (h2 : c ≠ 126) : RfS l (o ++ [a ++ [c]]) (q + 1) := by
 obtain ⟨g1, g2, g3, g4, g5⟩ := h
 have hq := (List.getElem?_eq_some_iff.1 hc).1
 rw [drop_at hc, rfL_plain h1 h2, addN_on] at g2
 refine ⟨hq, g2, by simp at g3 ⊢; omega, fun _ => by simp, fun b hb => ?_⟩
 simp at hb
 rcases hb with hb | rfl
 ·have := g5 b (by simp [hb]); omega
 ·have := g5 a (by simp); simp; omega
theorem RfS.til {l : List UInt8} {o : List (List UInt8)} {a : List UInt8} {q : Nat} (h : RfS l (o ++ [a]) q) (hc : l[q]? = some 126) {d : UInt8} (hd : l[q + 1]? = some d) {x : UInt8} (hx : (d = 48 ∧ x = 126) ∨ (d = 49 ∧ x = 47)) : RfS l (o ++ [a ++ [x]]) (q + 2) := by
 obtain ⟨g1, g2, g3, g4, g5⟩ := h
 have hq := (List.getElem?_eq_some_iff.1 hd).1
 rw [drop_at hc, drop_at hd, rfL_til] at g2
 have g2' : rfL (o ++ [a ++ [x]]) (l.drop (q + 2)) = ptrL l := by
  rcases hx with ⟨rfl, rfl⟩ | ⟨rfl, rfl⟩
  ·rw [if_pos rfl, addN_on] at g2; exact g2
  ·rw [if_neg (by decide), if_pos rfl, addN_on] at g2; exact g2
 refine ⟨hq, g2', by simp at g3 ⊢; omega, fun _ => by simp, fun b hb => ?_⟩
 simp at hb
 rcases hb with hb | rfl
 ·have := g5 b (by simp [hb]); omega
 ·have := g5 a (by simp); simp; omega
theorem RfS.bad {l : List UInt8} {out : List (List UInt8)} {q : Nat} (h : RfS l out q) (hc : l[q]? = some 126) (hd : q + 1 = l.length ∨ ∃ d, l[q + 1]? = some d ∧ d ≠ 48 ∧ d ≠ 49) : ptrL l = none := by
 obtain ⟨-, g2, -⟩ := h
 rw [drop_at hc] at g2
 rcases hd with hd | ⟨d, hd, h1, h2⟩
 ·rw [List.drop_eq_nil_of_le (by omega), rfL_none] at g2
  exact g2.symm
 ·rw [drop_at hd, rfL_til, if_neg h1, if_neg h2] at g2
  exact g2.symm
theorem RfS.stop {l : List UInt8} {out : List (List UInt8)} (h : RfS l out l.length) : ptrL l = some out := by
 have := h.2.1
 rw [List.drop_eq_nil_of_le (Nat.le_refl _)] at this
 rw [← this]
 rfl
/-- The last name of a row that grows. -/
theorem KeysG.lastN {B : Nat} {W : World} {v : Value} {o : List (List UInt8)} {a : List UInt8} (h : KeysG B W v ((o ++ [a]).map mkL)) : ∃ g cap, v = .slice (some ⟨g, 0, none⟩) (o.length + 1) cap := by
 rcases h.1.2 with ⟨-, h'⟩ | ⟨g, cap, cur, rfl, -⟩
 ·rw [List.length_map, List.length_append] at h'
  simp at h'
 ·exact ⟨g, cap, by simp⟩
theorem lastN_get (o : List (List UInt8)) (a : List UInt8) : ((o ++ [a]).map mkL)[o.length]? = some (mkL a) := by
 rw [List.getElem?_map, List.getElem?_append_right (Nat.le_refl _), Nat.sub_self]
 rfl
theorem lastN_set (o : List (List UInt8)) (a b : List UInt8) : ((o ++ [a]).map mkL).set o.length (mkL b) = (o ++ [b]).map mkL := by
 rw [List.map_append, List.set_append_right _ _ (by simp), List.length_map, Nat.sub_self, List.map_append]
 rfl
set_option maxRecDepth 10000 in
theorem parseR20_nil (w : World) : Calls Tryd.prog 30 #[.string (mkL [])] w fun e w' => ∃ v, e = .returned (.tuple #[v, .int .i64 (ptE [])]) ∧ KeysG w.heap.size w' v ((ptN []).map mkL) ∧ Below w.heap.size w w' := by
 show Calls Tryd.prog 30 #[.string ByteArray.empty] w _
 go_enter Tryd.func30, Tryd.ntmps30
 go_wp2
 go_loopw [4, 5] (fun vv ii wr => vv = .slice none 0 0 ∧ ii = .int .i64 0 ∧ wr = w) (fun _ _ _ => 0)
 case atStart => exact ⟨rfl, rfl, rfl⟩
 case round =>
  obtain ⟨rfl, rfl, rfl⟩ := hrel
  go_wp2
  go_ret2
  exact ⟨_, rfl, KeysG.nil _ _, Below.refl _ _⟩
set_option maxRecDepth 10000 in
theorem parseR20_no (d : UInt8) (t : List UInt8) (hd47 : d ≠ 47) (w : World) : Calls Tryd.prog 30 #[.string (mkL (d :: t))] w fun e w' => ∃ v, e = .returned (.tuple #[v, .int .i64 (ptE (d :: t))]) ∧ KeysG w.heap.size w' v ((ptN (d :: t)).map mkL) ∧ Below w.heap.size w w' := by
 have hne : ((mkL (d :: t)).toList == []) = false := by
  rw [eq_const, data_mkL]
  exact decide_eq_false (by simp)
 have hne2 : ((mkL (d :: t)).toList != []) = true := by rw [bne, hne]; rfl
 have h0 : 0 < (mkL (d :: t)).size := by rw [mkL_size]; simp
 have hd : ((mkL (d :: t))[0]'h0).toNat = d.toNat := by
  rw [← lk_at _ 0 h0]
  exact lk_mkL (d :: t) 0 d rfl
 have hp := hid (show ptrL (d :: t) = none by rw [ptrL, if_neg hd47])
 have hd2 : (((mkL (d :: t))[0]'h0).toNat : Int) ≠ 47 := by
  rw [hd]
  intro h
  exact hd47 (UInt8.toNat_inj.1 (show d.toNat = 47 by omega))
 have hd3 : ((((mkL (d :: t))[0]'h0).toNat : Int) != 47) = true := bne_iff_ne.2 hd2
 have hN := hid (show ptN (d :: t) = [] by unfold ptN; rw [hp.out]; rfl)
 have hE := hid (show ptE (d :: t) = 200 by unfold ptE; rw [hp.out]; rfl)
 generalize mkL (d :: t) = s at hne hne2 h0 hd2 hd3 ⊢
 clear hd hd47
 go_enter Tryd.func30, Tryd.ntmps30
 go_wp2
 go_ret2
 refine ⟨_, by rw [hE.out]; rfl, ?_, Below.refl _ _⟩
 rw [hN.out]
 exact KeysG.nil _ _
set_option maxRecDepth 10000 in
set_option maxHeartbeats 8000000 in
theorem parseR20_yes (t : List UInt8) (hl : (47 :: t).length ≤ 4294967296) (w : World) : Calls Tryd.prog 30 #[.string (mkL (47 :: t))] w fun e w' => ∃ v, e = .returned (.tuple #[v, .int .i64 (ptE (47 :: t))]) ∧ KeysG w.heap.size w' v ((ptN (47 :: t)).map mkL) ∧ Below w.heap.size w w' := by
 have hne : ((mkL (47 :: t)).toList == []) = false := by
  rw [eq_const, data_mkL]
  exact decide_eq_false (by simp)
 have hne2 : ((mkL (47 :: t)).toList != []) = true := by rw [bne, hne]; rfl
 have h0 : 0 < (mkL (47 :: t)).size := by rw [mkL_size]; simp
 have hd : ((mkL (47 :: t))[0]'h0).toNat = 47 := by
  rw [← lk_at _ 0 h0]
  exact lk_mkL (47 :: t) 0 47 rfl
 have hd3 : ((((mkL (47 :: t))[0]'h0).toNat : Int) != 47) = false := by rw [hd]; rfl
 have hh := hid (show ∀ c ∈ (47 :: t).head?, c = (47 : UInt8) from fun c hc => by simp at hc; exact hc.symm)
 have hC0 := hid (RfS.start hh.out)
 have hz := mkL_size (47 :: t)
 have hlk := hid (fun (i : Nat) (x : UInt8) (h : (47 :: t)[i]? = some x) => lk_mkL (47 :: t) i x h)
 have hex := hid (fun a b => mkL_ext (47 :: t) a b)
 clear hd
 generalize mkL (47 :: t) = s at hne hne2 h0 hd3 hz hlk hex ⊢
 generalize 47 :: t = l at hh hl hC0 hz hlk hex ⊢
 have hsz : (s.size : Int) ≤ 4294967296 := by omega
 have hz' := hid hz
 clear hz hl
 go_enter Tryd.func30, Tryd.ntmps30
 go_wp2
 go_loopw [4, 5] (fun vv ii wr => ∃ (out : List (List UInt8)) (q : Nat), ii = .int .i64 (q : Int) ∧ Hid (RfS l out q) ∧ Hid (KeysG w.heap.size wr vv (out.map mkL)) ∧ Hid (Below w.heap.size w wr)) (fun _ ii _ => s.size - (intOf ii).toNat)
 case atStart => exact ⟨[], 0, rfl, hC0, hid (KeysG.nil _ _), hid (Below.refl _ _)⟩
 case round =>
  clear hC0
  obtain ⟨out, q, rfl, hC, hK, hB⟩ := hrel
  obtain ⟨c1, -, c3, -, c5⟩ := hC.out
  rw [← hz'.out] at c1
  have hqs : (q : Int) ≤ (s.size : Int) := by omega
  have hon : (out.length : Int) ≤ 4294967296 := by omega
  by_cases hq : q < s.size
  ·have hqi : (q : Int) < (s.size : Int) := by omega
   obtain ⟨c, hc⟩ : ∃ c, l[q]? = some c := ⟨_, List.getElem?_eq_getElem (by rw [← hz'.out]; exact hq)⟩
   have hcv : (s[q]'hq).toNat = c.toNat := by rw [← lk_at s q hq]; exact hlk.out q c hc
   by_cases h47 : c = 47
   ·subst h47
    have hC2 := hid (hC.out.sl hc)
    have hcv' : ((s[q]'hq).toNat : Int) = 47 := by rw [hcv]; rfl
    have qz : Below wr.heap.size wr (wr.alloc (.cells #[.string ⟨#[]⟩] 9)) := (Below.refl _ _).alloc (Nat.le_refl _) _
    have K2 := hid (hK.out.kept (SameOn.below qz))
    have B2 := hid (hB.out.trans (qz.mono hB.out.size))
    have hkl := hid (show (out.map mkL).length < 1099511627776 by rw [List.length_map]; omega)
    obtain ⟨so, cap, rfl⟩ := hK.out.shape
    have hln : (out.map mkL).length = out.length := List.length_map ..
    rw [hln] at K2 ⊢
    clear qz hcv hc hC hK hB c5 hln
    go_wp2_with (at_builtin; refine wpList_keysR rfl rfl rfl K2.out (show (⟨#[]⟩ : ByteArray).size ≤ capT from Nat.zero_le _) ⟨wr.heap.size, 0, none⟩ 1 rfl (by simp [Addr.add]) hkl.out B2.out.size ?_; intro v' w' hk1 hg1; have K4 := hid hk1; have B4 := hid (B2.out.grown hg1 B2.out.size (fun b e => (K2.out.blk e).1)); clear hk1 hg1)
    go_roundw
    case rel => exact ⟨_, q + 1, by simp, hC2, hid (by rw [List.map_append]; exact K4.out), B4⟩
    case measure => simp [intOf]; omega
   ·obtain ⟨o, a, ho⟩ := hC.out.last hh.out hc h47
    subst ho
    obtain ⟨g, cap, rfl⟩ := hK.out.lastN
    obtain ⟨k, hk⟩ : ∃ k, Hid (o.length = k) := ⟨_, rfl⟩
    obtain ⟨n, hn⟩ : ∃ n, Hid (o.length + 1 = n) := ⟨_, rfl⟩
    have hnk := hid (show n - 1 = k by rw [← hn.out, ← hk.out]; omega)
    have n1 : (1 : Int) ≤ (n : Int) := by rw [← hn.out]; omega
    have n2 : (n : Int) ≤ 4294967296 := by rw [← hn.out]; simp at hon; omega
    have al := c5 a (by simp)
    have hge := lastN_get o a
    rw [hk.out] at hge
    rw [hn.out] at hK
    obtain ⟨hcell, hfro⟩ := hK.out.cell hge
    have hgb := hid (hK.out.blk (g := g) rfl)
    have hls := hid (fun x : List UInt8 => lastN_set o a x)
    rw [hk.out] at hls
    rw [← hnk.out] at hcell hfro
    have hch := h47
    have hn47 : ((s[q]'hq).toNat : Int) ≠ 47 := by
     rw [hcv]
     intro h
     exact h47 (UInt8.toNat_inj.1 (show c.toNat = 47 by omega))
    rw [hn.out]
    by_cases h126 : c = 126
    ·subst h126
     have hcv' : ((s[q]'hq).toNat : Int) = 126 := by rw [hcv]; rfl
     by_cases hq1 : q + 1 < s.size
     ·have hq1i : ((q : Int) + 1) < (s.size : Int) := by omega
      obtain ⟨d, hd⟩ : ∃ d, l[q + 1]? = some d := ⟨_, List.getElem?_eq_getElem (by rw [← hz'.out]; exact hq1)⟩
      have hdv : (s[q + 1]'hq1).toNat = d.toNat := by rw [← lk_at s (q + 1) hq1]; exact hlk.out (q + 1) d hd
      have key : (d = 48 ∧ d.toNat = 48) ∨ (d = 49 ∧ d.toNat = 49) ∨ (d ≠ 48 ∧ d ≠ 49 ∧ d.toNat ≠ 48 ∧ d.toNat ≠ 49) := by
       by_cases h1 : d = 48
       ·exact .inl ⟨h1, by rw [h1]; rfl⟩
       ·by_cases h2 : d = 49
        ·exact .inr (.inl ⟨h2, by rw [h2]; rfl⟩)
        ·exact .inr (.inr ⟨h1, h2, fun h => h1 (UInt8.toNat_inj.1 h), fun h => h2 (UInt8.toNat_inj.1 h)⟩)
      rcases key with ⟨k1, k2⟩ | ⟨k1, k2⟩ | ⟨k1, k2, k3, k4⟩
      ·have hC2 := hid (hC.out.til hc hd (x := 126) (.inl ⟨k1, rfl⟩))
       have hst := hid ((hK.out.stored k (mkL (a ++ [126])) (by rw [mkL_size]; simp; unfold capT; omega)).1)
       rw [hls.out, ← hnk.out] at hst
       have hadd : ∀ u : World, (Op.stringOp .add (mkL a) ⟨#[126]⟩).run Tryd.prog u = .ok (.string (mkL (a ++ [126]))) u := fun u => by rw [run_string_add_sum u (mkL a) ⟨#[126]⟩ (by rw [mkL_size]; show a.length + 1 ≤ _; omega), ← mkL_app]; rfl
       have hBs := hid (hB.out.setCell (p := ⟨g, n - 1, none⟩) hgb.out.1 (.string (mkL (a ++ [126]))))
       generalize mkL (a ++ [126]) = bs at hst hadd hBs
       generalize mkL a = az at hcell hadd
       have hdv' : ((s[q + 1]'hq1).toNat : Int) = 48 := by rw [hdv, k2]; rfl
       clear k1 k2 hdv hd hc hcv hC hK hB hls hge c5 al hch h47 hn47
       go_wp2
       go_roundw
       case rel => exact ⟨_, q + 2, by simp; omega, hC2, hst, hBs⟩
       case measure => simp [intOf]; omega
      ·have hC2 := hid (hC.out.til hc hd (x := 47) (.inr ⟨k1, rfl⟩))
       have hst := hid ((hK.out.stored k (mkL (a ++ [47])) (by rw [mkL_size]; simp; unfold capT; omega)).1)
       rw [hls.out, ← hnk.out] at hst
       have hadd : ∀ u : World, (Op.stringOp .add (mkL a) ⟨#[47]⟩).run Tryd.prog u = .ok (.string (mkL (a ++ [47]))) u := fun u => by rw [run_string_add_sum u (mkL a) ⟨#[47]⟩ (by rw [mkL_size]; show a.length + 1 ≤ _; omega), ← mkL_app]; rfl
       have hBs := hid (hB.out.setCell (p := ⟨g, n - 1, none⟩) hgb.out.1 (.string (mkL (a ++ [47]))))
       generalize mkL (a ++ [47]) = bs at hst hadd hBs
       generalize mkL a = az at hcell hadd
       have hdv' : ((s[q + 1]'hq1).toNat : Int) = 49 := by rw [hdv, k2]; rfl
       clear k1 k2 hdv hd hc hcv hC hK hB hls hge c5 al hch h47 hn47
       go_wp2
       go_roundw
       case rel => exact ⟨_, q + 2, by simp; omega, hC2, hst, hBs⟩
       case measure => simp [intOf]; omega
      ·have hPn := hid (hC.out.bad hc (.inr ⟨d, hd, k1, k2⟩))
       have hdv1 : ((s[q + 1]'hq1).toNat : Int) ≠ 48 := by rw [hdv]; omega
       have hdv2 : ((s[q + 1]'hq1).toNat : Int) ≠ 49 := by rw [hdv]; omega
       have hdv3 : (((s[q + 1]'hq1).toNat : Int) != 48) = true := bne_iff_ne.2 hdv1
       have hdv4 : (((s[q + 1]'hq1).toNat : Int) != 49) = true := bne_iff_ne.2 hdv2
       clear k1 k2 k3 k4 hdv hd hc hcv hC hK hls hge c5 al hch h47 hn47 hcell hfro
       go_wp2
       go_ret2
       refine ⟨_, by unfold ptE; rw [hPn.out]; rfl, ?_, hB.out⟩
       unfold ptN
       rw [hPn.out]
       exact KeysG.nil _ _
     ·have hqe : (q : Int) + 1 = (s.size : Int) := by omega
      have hPn := hid (hC.out.bad hc (.inl (by rw [← hz'.out]; omega)))
      clear hc hcv hC hK hls hge c5 al hch h47 hn47 hcell hfro
      go_wp2
      go_ret2
      refine ⟨_, by unfold ptE; rw [hPn.out]; rfl, ?_, hB.out⟩
      unfold ptN
      rw [hPn.out]
      exact KeysG.nil _ _
    ·have hC2 := hid (hC.out.plain hc h47 h126)
     have hsx : s.extract q (q + 1) = mkL [c] := by
      rw [hex.out, show q + 1 - q = 1 by omega, drop_at hc]
      rfl
     have hn126 : ((s[q]'hq).toNat : Int) ≠ 126 := by
      rw [hcv]
      intro h
      exact h126 (UInt8.toNat_inj.1 (show c.toNat = 126 by omega))
     have hst := hid ((hK.out.stored k (mkL (a ++ [c])) (by rw [mkL_size]; simp; unfold capT; omega)).1)
     rw [hls.out, ← hnk.out] at hst
     have hadd : ∀ u : World, (Op.stringOp .add (mkL a) (s.extract q (q + 1))).run Tryd.prog u = .ok (.string (mkL (a ++ [c]))) u := fun u => by rw [hsx, run_string_add_sum u (mkL a) (mkL [c]) (by rw [mkL_size, mkL_size]; show a.length + 1 ≤ _; omega), mkL_app]
     have hBs := hid (hB.out.drew.setCell (p := ⟨g, n - 1, none⟩) hgb.out.1 (.string (mkL (a ++ [c]))))
     have hst' : Hid (KeysG w.heap.size (wr.drew.setCell ⟨g, n - 1, none⟩ (.string (mkL (a ++ [c])))) (.slice (some ⟨g, 0, none⟩) n cap) ((o ++ [a ++ [c]]).map mkL)) := hst
     generalize mkL (a ++ [c]) = bs at hst hst' hadd hBs
     generalize mkL a = az at hcell hadd
     have hq1 : (q : Int) + 1 ≤ (s.size : Int) := by omega
     have i1 : (0 : Int) ≤ (n : Int) - 1 := by omega
     have i2 : (n : Int) - 1 < (n : Int) := by omega
     clear hc hcv hC hK hB hls hge c5 al hch h47 h126 hsx hst
     go_wp2
     go_region
     all_goals go_wp2
     go_roundw
     case rel => exact ⟨_, q + 1, by simp, hC2, hst', hBs⟩
     case measure => simp [intOf]; omega
  ·obtain rfl : q = s.size := by omega
   have hPs := hid (show ptrL l = some out by have := hC.out; rw [hz'.out] at this; exact this.stop)
   go_wp2
   go_ret2
   refine ⟨_, by unfold ptE; rw [hPs.out]; rfl, ?_, hB.out⟩
   unfold ptN
   rw [hPs.out]
   exact hK.out
theorem parseR20_calls (l : List UInt8) (hl : l.length ≤ 4294967296) (w : World) : Calls Tryd.prog 30 #[.string (mkL l)] w fun e w' => ∃ v, e = .returned (.tuple #[v, .int .i64 (ptE l)]) ∧ KeysG w.heap.size w' v ((ptN l).map mkL) ∧ Below w.heap.size w w' := by
 cases l with
 | nil => exact parseR20_nil w
 | cons d t =>
  by_cases h : d = 47
  ·subst h; exact parseR20_yes t hl w
  ·exact parseR20_no d t h w
end Go.Proofs.YtjlcliicdclooaaDoor
