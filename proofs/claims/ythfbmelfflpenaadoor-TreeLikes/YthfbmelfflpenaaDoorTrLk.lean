/-
  The law TreeLikes, walked.
-/
import Derived.Test.YthfbmelfflpenaaDoorTrO
import Derived.Test.YthfbmelfflpenaaDoorTrSm
import Derived.Test.YthfbmelfflpenaaDoorTrBd
import Derived.Test.YthfbmelfflpenaaDoorTpE3
namespace Go.Proofs.YthfbmelfflpenaaDoor
open Go.RowKit Go.Shelf

theorem n10_alk : AlkB (.mk 3 false ⟨#[49, 46, 48]⟩ ⟨#[]⟩ [] []) (.mk 3 false ⟨#[49, 48, 101, 45, 49]⟩ ⟨#[]⟩ [] []) true := by
  refine ⟨fun _ => ⟨by decide +kernel, by decide +kernel, ?_⟩, fun _ => rfl⟩
  rw [alk0 3 (by decide) (by decide)]
  refine ⟨fun e => absurd e (by decide), fun e => absurd e (by decide), fun _ => ?_⟩
  unfold NumA
  decide +kernel
set_option maxRecDepth 10000 in
set_option maxHeartbeats 8000000 in
theorem treeLikes_walk (t : Vt) (va : Value) (u : Vt) (vb : Value) (w : World) (hTw : TabU w) (ha : ValAt w t va) (hb : ValAt w u vb) :
    Calls Tryd.prog 4 #[va, vb] w fun e w' => e = .returned (.bool true) ∧ Below w.heap.size w w' := by
  have hT' := hid hTw
  clear hTw
  have hs := hid (fun u => small_calls u)
  have p1 : Hid (∀ v v2 u, ValAt u smallT v → ValAt u smallT v2 → Calls Tryd.prog 13 #[v, v2] u fun e w' => e = .returned (.bool true) ∧ Below u.heap.size u w') := fun v v2 u h h2 => sameP_calls smallT smallT true ⟨fun _ => rfl, fun _ => rfl⟩ v v2 u h h2
  have p2 : Hid (∀ u : World, TabU u → Calls Tryd.prog 14 #[.agg #[.int .i64 3, .bool false, .string ⟨#[49, 46, 48]⟩, .string ⟨#[]⟩, .slice none 0 0, .slice none 0 0], .agg #[.int .i64 3, .bool false, .string ⟨#[49, 48, 101, 45, 49]⟩, .string ⟨#[]⟩, .slice none 0 0, .slice none 0 0]] u fun e w' => e = .returned (.bool true) ∧ Below u.heap.size u w') := fun u hu => alikeP_calls _ _ true n10_alk _ _ u hu (valLeaf u 3 false _ _ (by decide) (by decide) (by decide)) (valLeaf u 3 false _ _ (by decide) (by decide) (by decide))
  obtain ⟨B, hB⟩ : ∃ B, Hid (byd t = B) := ⟨_, rfl⟩
  obtain ⟨G, hG⟩ : ∃ B, Hid (byd u = B) := ⟨_, rfl⟩
  obtain ⟨S, hS⟩ : ∃ S : Bool, Hid (S = true ↔ t = u) := by
    by_cases h : t = u
    · exact ⟨true, hid ⟨fun _ => h, fun _ => rfl⟩⟩
    · exact ⟨false, hid (no_iff h)⟩
  obtain ⟨K, hK⟩ : ∃ K : Bool, Hid (AlkB t u K) := by
    by_cases h : wfV t 1024 = true ∧ wfV u 1024 = true ∧ Alk t u
    · exact ⟨true, hid ⟨fun _ => h, fun _ => rfl⟩⟩
    · exact ⟨false, hid (no_iff h)⟩
  have q0 := hid (fun u hu => beyond_calls t B hB va u hu)
  have q1 := hid (fun u0 hu => beyond_calls u G hG vb u0 hu)
  have q2 := hid (fun u0 h1 h2 => sameP_calls t u S hS va vb u0 h1 h2)
  have r2 := hid (fun u0 h1 h2 => same17_calls t u S hS va vb u0 h1 h2)
  have q3 := hid (fun u0 h0 h1 h2 => alikeP_calls t u K hK va vb u0 h0 h1 h2)
  have r3 := hid (fun (e : B = false) (e' : G = false) u0 h1 h2 => alike17_calls t u K hK (byd_bnd (hB.out.trans e)).1 (byd_bnd (hG.out.trans e')).1 (byd_bnd (hB.out.trans e)).2.1 (byd_bnd (hG.out.trans e')).2.1 va vb u0 h1 h2)
  have ha' := hid ha
  have hb' := hid hb
  clear hB hG hS hK
  cases ha with
  | mk k b r t ks vs ko kc vo vc X hw hzz hk hr hv =>
  cases hb with
  | mk k2 b2 r2' t2 ks2 vs2 ko2 kc2 vo2 vc2 X2 hw2 hzz2 hk2 hr2 hv2 =>
  clear hw hzz hk hr hv hw2 hzz2 hk2 hr2 hv2
  generalize ks.length = N at *
  generalize vs.length = M at *
  generalize ks2.length = N2 at *
  generalize vs2.length = M2 at *
  have A1 : Hid (At ((w.alloc (.cells #[.int .i64 k, .bool b, .string r, .string t, .slice ko N kc, .slice vo M vc] 25)).alloc (.cells #[.int .i64 k2, .bool b2, .string r2', .string t2, .slice ko2 N2 kc2, .slice vo2 M2 vc2] 25)) w.heap.size #[.int .i64 k, .bool b, .string r, .string t, .slice ko N kc, .slice vo M vc] 25) := (At.new _ _ _).alloc _
  have D1 : Hid (At ((w.alloc (.cells #[.int .i64 k, .bool b, .string r, .string t, .slice ko N kc, .slice vo M vc] 25)).alloc (.cells #[.int .i64 k2, .bool b2, .string r2', .string t2, .slice ko2 N2 kc2, .slice vo2 M2 vc2] 25)) (w.heap.size + 1) #[.int .i64 k2, .bool b2, .string r2', .string t2, .slice ko2 N2 kc2, .slice vo2 M2 vc2] 25) := At.newAt _ _ (by rw [World.size_alloc])
  have B1 : Hid (Below w.heap.size w ((w.alloc (.cells #[.int .i64 k, .bool b, .string r, .string t, .slice ko N kc, .slice vo M vc] 25)).alloc (.cells #[.int .i64 k2, .bool b2, .string r2', .string t2, .slice ko2 N2 kc2, .slice vo2 M2 vc2] 25))) := by
    show Below _ _ _
    repeat (first | with_reducible exact Below.refl _ _ | with_reducible refine Below.setCell ?_ (by first | (simp; done) | (simp; omega)) _ | with_reducible refine below_drewN ?_ _ | with_reducible refine Below.alloc ?_ (by first | (simp; done) | (simp; omega)) _ | with_reducible refine Below.drew ?_)
  go_enter Tryd.func4, Tryd.ntmps4
  go_wp2_with fail
  generalize ((w.alloc (.cells #[.int .i64 k, .bool b, .string r, .string t, .slice ko N kc, .slice vo M vc] 25)).alloc (.cells #[.int .i64 k2, .bool b2, .string r2', .string t2, .slice ko2 N2 kc2, .slice vo2 M2 vc2] 25)) = W at A1 D1 B1 ⊢
  -- steps
  refine Calls.mono (hs.out _) ?_
  rintro e w1 ⟨v, rfl, hv, hb⟩
  have A2 := hid (A1.out.keptAll hb)
  have D2 := hid (D1.out.keptAll hb)
  have B2 := hid (B1.out.trans (hb.mono B1.out.size))
  clear hb A1 D1 B1
  have hv' := hid hv
  clear hv
  go_wp2_with fail
  refine Calls.mono (hs.out _) ?_
  rintro e w2 ⟨v2, rfl, hv2, hb⟩
  have hv3 := hid (hv'.out.kept hb)
  have hv2' := hid hv2
  clear hv2 hv'
  have A3 := hid (A2.out.keptAll hb)
  have D3 := hid (D2.out.keptAll hb)
  have B3 := hid (B2.out.trans (hb.mono B2.out.size))
  clear hb A2 D2 B2
  go_wp2_with fail
  refine Calls.mono (p1.out v v2 _ hv3.out hv2'.out) ?_
  rintro e w3 ⟨rfl, hb⟩
  clear hv3 hv2' p1 hs
  have A4 := hid (A3.out.keptAll hb)
  have D4 := hid (D3.out.keptAll hb)
  have B4 := hid (B3.out.trans (hb.mono B3.out.size))
  clear hb A3 D3 B3
  go_wp2_with fail
  refine Calls.mono (p2.out _ (hT'.out.below B4.out)) ?_
  rintro e w4 ⟨rfl, hb⟩
  clear p2
  have A5 := hid (A4.out.keptAll hb)
  have D5 := hid (D4.out.keptAll hb)
  have B5 := hid (B4.out.trans (hb.mono B4.out.size))
  clear hb A4 D4 B4
  have c0 := A5.out.cell 0
  have c1 := A5.out.cell 1
  have c2 := A5.out.cell 2
  have c3 := A5.out.cell 3
  have c4 := A5.out.cell 4
  have c5 := A5.out.cell 5
  simp only [List.getElem?_toArray, List.getElem?_cons_zero, List.getElem?_cons_succ] at c0 c1 c2 c3 c4 c5
  go_wp2_with fail
  refine Calls.mono (q0.out _ (ha'.out.kept B5.out)) ?_
  rintro e w5 ⟨rfl, hb⟩
  clear c0 c1 c2 c3 c4 c5 q0
  have A6 := hid (A5.out.keptAll hb)
  have D6 := hid (D5.out.keptAll hb)
  have B6 := hid (B5.out.trans (hb.mono B5.out.size))
  clear hb A5 D5 B5
  cases B with
  | true =>
    go_wp2
    go_ret
    exact ⟨rfl, B6.out⟩
  | false =>
    have d0 := D6.out.cell 0
    have d1 := D6.out.cell 1
    have d2 := D6.out.cell 2
    have d3 := D6.out.cell 3
    have d4 := D6.out.cell 4
    have d5 := D6.out.cell 5
    simp only [List.getElem?_toArray, List.getElem?_cons_zero, List.getElem?_cons_succ] at d0 d1 d2 d3 d4 d5
    go_wp2_with fail
    refine Calls.mono (q1.out _ (hb'.out.kept B6.out)) ?_
    rintro e w6 ⟨rfl, hb⟩
    clear d0 d1 d2 d3 d4 d5 q1
    have A7 := hid (A6.out.keptAll hb)
    have D7 := hid (D6.out.keptAll hb)
    have B7 := hid (B6.out.trans (hb.mono B6.out.size))
    clear hb A6 D6 B6
    cases G with
    | true =>
      go_wp2
      go_ret
      exact ⟨rfl, B7.out⟩
    | false =>
      have r3' := hid (r3.out (by first | rfl | trivial) (by first | rfl | trivial))
      clear r3
      have e1 : (S == S) = true := by simp
      have e2 : (K == K) = true := by simp
      go_wp2
      refine wp_region_quiet (C := (fun w' => Below w6.heap.size w6 w')) (by kernel_rfl) (by kernel_rfl) ((Below.refl _ _).drew) ?_
      dsimp only
      repeat (first
        | (refine wpQuiet_skip (by rfl) ?_; simp only [Act.put, List.setIfInBounds_toArray, List.set_cons_zero, List.set_cons_succ])
        | (refine wpQuiet_load 25 _ (w.heap.size) (0) [.int .i64 k, .bool b, .string r, .string t, .slice ko N kc, .slice vo M vc] _ (fun wq hq => (A7.out.keptAll hq).range rfl) Tryd.underlying25 sizeVl rfl rfl rfl (by rfl) ?_; simp only [Act.put, List.setIfInBounds_toArray, List.set_cons_zero, List.set_cons_succ])
        | (refine wpQuiet_load 25 _ (w.heap.size + 1) (0) [.int .i64 k2, .bool b2, .string r2', .string t2, .slice ko2 N2 kc2, .slice vo2 M2 vc2] _ (fun wq hq => (D7.out.keptAll hq).range rfl) Tryd.underlying25 sizeVl rfl rfl rfl (by rfl) ?_; simp only [Act.put, List.setIfInBounds_toArray, List.set_cons_zero, List.set_cons_succ])
        | (refine' wpQuiet_take (by rfl) ?_ ?_
           rotate_left
           · (intro wq hq; (try dsimp only at hq); go_simp
              first
                | done
                | with_reducible rfl
                | (go_at_call 13; have hzz := q2.out wq (ha'.out.kept (B7.out.trans (Below.mono hq B7.out.size))) (hb'.out.kept (B7.out.trans (Below.mono hq B7.out.size))); with_reducible refine hzz.mono ?_; clear hzz; rintro e wz ⟨rfl, hb⟩; exact ⟨rfl, Below.trans hq (Below.mono hb hq.size)⟩)
                | (go_at_call 15; have hzz := r2.out wq (ha'.out.kept (B7.out.trans (Below.mono hq B7.out.size))) (hb'.out.kept (B7.out.trans (Below.mono hq B7.out.size))); with_reducible refine hzz.mono ?_; clear hzz; rintro e wz ⟨rfl, hb⟩; exact ⟨rfl, Below.trans hq (Below.mono hb hq.size)⟩)
                | (go_at_call 14; have hzz := q3.out wq (hT'.out.below (B7.out.trans (Below.mono hq B7.out.size))) (ha'.out.kept (B7.out.trans (Below.mono hq B7.out.size))) (hb'.out.kept (B7.out.trans (Below.mono hq B7.out.size))); with_reducible refine hzz.mono ?_; clear hzz; rintro e wz ⟨rfl, hb⟩; exact ⟨rfl, Below.trans hq (Below.mono hb hq.size)⟩)
                | (go_at_call 16; have hzz := r3'.out wq (ha'.out.kept (B7.out.trans (Below.mono hq B7.out.size))) (hb'.out.kept (B7.out.trans (Below.mono hq B7.out.size))); with_reducible refine hzz.mono ?_; clear hzz; rintro e wz ⟨rfl, hb⟩; exact ⟨rfl, Below.trans hq (Below.mono hb hq.size)⟩)
             )
           simp only [Act.put, List.setIfInBounds_toArray, List.set_cons_zero, List.set_cons_succ]))
      refine wpQuiet_nil ?_
      intro wz hwz
      have hfin := hid (B7.out.trans (Below.mono hwz B7.out.size))
      clear hwz
      go_wp2
      go_ret
      exact ⟨rfl, hfin.out⟩
end Go.Proofs.YthfbmelfflpenaaDoor
