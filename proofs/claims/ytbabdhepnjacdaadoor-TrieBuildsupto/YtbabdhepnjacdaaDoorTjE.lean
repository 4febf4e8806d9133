/-
  quarryref00.SameTrie; quarrylaw23.awake.
-/
import Derived.Test.YtbabdhepnjacdaaDoorTjD
namespace Go.Proofs.YtbabdhepnjacdaaDoor
open Go.RowKit Go.Shelf
set_option maxRecDepth 10000 in
set_option maxHeartbeats 8000000 in
theorem sameTrie_calls (T : List Nod) (ao bo : Option Addr) (N cap cap' : Nat) (hN : Hid (T.length = N)) (hm : Hid (Mid T)) (w : World) (hL : Hid (NodesAt w ao T)) (hk : Hid (NodesAt w bo T)) :
    Calls Tryd.prog 11 #[.slice ao N cap, .slice bo N cap'] w fun e w' => e = .returned (.bool true) ∧ Below w.heap.size w w' := by
  have hNi : N ≤ 1048576 := by have := hm.out.1; have := hN.out; omega
  have hNi' : (N : Int) ≤ 1048576 := by omega
  go_enter Tryd.func11, Tryd.ntmps11
  go_wp2
  go_loopw [5] (fun ii wr => ∃ i : Nat, i ≤ N ∧ ii = .int .i64 (i : Int) ∧ Hid (Below w.heap.size w wr)) (fun ii _ => N - (intOf ii).toNat)
  case atStart => exact ⟨0, Nat.zero_le _, rfl, hid (Below.refl _ _)⟩
  case round =>
    obtain ⟨i, hi, rfl, hb⟩ := hrel
    by_cases hlt : i < N
    · have hlt' := hid (show i + 1 ≤ N by omega)
      have hli : (i : Int) < (N : Int) := by omega
      obtain ⟨n, hn⟩ : ∃ n, Hid (T[i]? = some n) := ⟨_, List.getElem?_eq_getElem (by rw [hN.out]; exact hlt)⟩
      obtain ⟨g1, o1, a1, a2, b1, b2, c1, c2, rfl, hS1, -, hT1, hE1, hc1⟩ := node_at hL.out hn.out
      obtain ⟨g2, o2, d1, d2, e1, e2, f1, f2, rfl, hS2, -, hT2, hE2, hc2⟩ := node_at hk.out hn.out
      obtain ⟨M1, hM1⟩ : ∃ M, Hid (n.steps.length = M) := ⟨_, rfl⟩
      obtain ⟨M2, hM2⟩ : ∃ M, Hid (n.tos.length = M) := ⟨_, rfl⟩
      obtain ⟨M3, hM3⟩ : ∃ M, Hid (n.ends.length = M) := ⟨_, rfl⟩
      have hnm := List.mem_of_getElem? hn.out
      have k1 : M1 ≤ 1073741824 := by have := hm.out.2.2.2 n hnm; have := hM1.out; omega
      have k2 : M2 ≤ 4611686018427387904 := by
        have h1 := (flat_pre Nod.tos hn.out M2).length_le
        have h2 := hm.out.2.1
        have := hM2.out
        unfold toA at h2
        rw [List.length_append, List.length_take] at h1
        omega
      have k3 : M3 ≤ 4611686018427387904 := by
        have h1 := (flat_pre Nod.ends hn.out M3).length_le
        have h2 := hm.out.2.2.1
        have := hM3.out
        unfold enA at h2
        rw [List.length_append, List.length_take] at h1
        omega
      rw [hM1.out, hM2.out, hM3.out] at hc1 hc2
      have q1 := hid (fun (u : World) (hu : Below w.heap.size w u) => sameStZ_calls n.steps a1 d1 M1 a2 d2 hM1 k1 u (hid (hS1.kept hu)) (hid (hS2.kept hu)))
      have q2 := hid (fun (u : World) (hu : Below w.heap.size w u) => sameZ_calls n.tos M2 hM2 k2 b1 e1 b2 e2 u (hT1.kept hu) (hT2.kept hu))
      have q3 := hid (fun (u : World) (hu : Below w.heap.size w u) => sameZ_calls n.ends M3 hM3 k3 c1 f1 c2 f2 u (hE1.kept hu) (hE2.kept hu))
      have C1 := hid (fun (u : World) (hu : Below w.heap.size w u) => (show (u.cell? ⟨g1, o1 + i * 3, none⟩ = some (.slice a1 M1 a2) ∧ u.cell? ⟨g1, o1 + i * 3 + 1, none⟩ = some (.slice b1 M2 b2) ∧ u.cell? ⟨g1, o1 + i * 3 + 2, none⟩ = some (.slice c1 M3 c2)) ∧ u.cell? ⟨g2, o2 + i * 3, none⟩ = some (.slice d1 M1 d2) ∧ u.cell? ⟨g2, o2 + i * 3 + 1, none⟩ = some (.slice e1 M2 e2) ∧ u.cell? ⟨g2, o2 + i * 3 + 2, none⟩ = some (.slice f1 M3 f2) from
        ⟨⟨(hc1 u hu).1, (hc1 u hu).2.1, (hc1 u hu).2.2.1⟩, (hc2 u hu).1, (hc2 u hu).2.1, (hc2 u hu).2.2.1⟩))
      have ad1 : (⟨g1, o1, none⟩ : Addr).add (i * 3) = ⟨g1, o1 + i * 3, none⟩ := by by_cases h : i * 3 = 0 <;> simp [Addr.add, h]
      have ad2 : (⟨g2, o2, none⟩ : Addr).add (i * 3) = ⟨g2, o2 + i * 3, none⟩ := by by_cases h : i * 3 = 0 <;> simp [Addr.add, h]
      have x1 : decide ((i : Int) < (N : Int)) = true := by simp; omega
      have Bd := hid (show Below w.heap.size w wr.drew from hb.out.drew)
      clear hn hS1 hS2 hT1 hT2 hE1 hE2 hc1 hc2 hL hk hN hm hnm k1 k2 k3 hM1 hM2 hM3
      go_wp2
      refine wp_region_quiet (C := (fun w' => Below w.heap.size w w' ∧ ((w'.cell? ⟨g1, o1 + i * 3, none⟩ = some (.slice a1 M1 a2) ∧ w'.cell? ⟨g1, o1 + i * 3 + 1, none⟩ = some (.slice b1 M2 b2) ∧ w'.cell? ⟨g1, o1 + i * 3 + 2, none⟩ = some (.slice c1 M3 c2)) ∧ w'.cell? ⟨g2, o2 + i * 3, none⟩ = some (.slice d1 M1 d2) ∧ w'.cell? ⟨g2, o2 + i * 3 + 1, none⟩ = some (.slice e1 M2 e2) ∧ w'.cell? ⟨g2, o2 + i * 3 + 2, none⟩ = some (.slice f1 M3 f2)))) (by kernel_rfl) (by kernel_rfl) (⟨Bd.out, C1.out _ Bd.out⟩) ?_
      dsimp only
      repeat (first
        | (refine wpQuiet_skip (by rfl) ?_; simp only [Act.put, List.setIfInBounds_toArray, List.set_cons_zero, List.set_cons_succ])
        | (refine' wpQuiet_take (by rfl) ?_ ?_
           rotate_left
           · (intro wq hq; (try dsimp only at hq); go_simp
              first
                | done
                | with_reducible rfl
                | (go_at_call 33; have hzz := q1.out wq hq.1; with_reducible refine hzz.mono ?_; clear hzz; rintro e wz ⟨rfl, hb⟩; exact ⟨rfl, Below.trans hq.1 (Below.mono hb hq.1.size), C1.out _ (Below.trans hq.1 (Below.mono hb hq.1.size))⟩)
                | (go_at_call 22; have hzz := q2.out wq hq.1; with_reducible refine hzz.mono ?_; clear hzz; rintro e wz ⟨rfl, hb⟩; exact ⟨rfl, Below.trans hq.1 (Below.mono hb hq.1.size), C1.out _ (Below.trans hq.1 (Below.mono hb hq.1.size))⟩)
                | (go_at_call 22; have hzz := q3.out wq hq.1; with_reducible refine hzz.mono ?_; clear hzz; rintro e wz ⟨rfl, hb⟩; exact ⟨rfl, Below.trans hq.1 (Below.mono hb hq.1.size), C1.out _ (Below.trans hq.1 (Below.mono hb hq.1.size))⟩)
             )
           simp only [Act.put, List.setIfInBounds_toArray, List.set_cons_zero, List.set_cons_succ]))
      refine wpQuiet_nil ?_
      intro wz hwz
      have hfin := hid hwz.1
      clear hwz
      go_wp2
      go_roundw
      case rel => exact ⟨i + 1, hlt'.out, by simp, hfin⟩
      case measure => simp [intOf]; have := hlt'.out; omega
    · obtain rfl : N = i := by omega
      clear hL hk hN
      go_wp2
      go_ret
      exact ⟨rfl, hb.out⟩
theorem nx_fun {T T1 T2 : List Nod} {a r1 r2 : Nat} {s : Stp} {Q : Stp → Prop} {k : Nat} (hI : Inv Q T k) (h1 : NxT T a s T1 r1) (h2 : NxT T a s T2 r2) : T1 = T2 ∧ r1 = r2 := by
  rcases h1 with ⟨n, j, x1, x2, x3, rfl⟩ | ⟨n, x1, x2, rfl, rfl⟩ <;> rcases h2 with ⟨m, q, y1, y2, y3, rfl⟩ | ⟨m, y1, y2, rfl, rfl⟩
  · have := x1.symm.trans y1
    cases this
    obtain ⟨l1, e1⟩ := List.getElem?_eq_some_iff.1 x2
    obtain ⟨l2, e2⟩ := List.getElem?_eq_some_iff.1 y2
    have hnd := List.pairwise_iff_getElem.1 (hI.nd n (List.mem_of_getElem? x1)).2
    have hjq : j = q := by
      rcases Nat.lt_trichotomy j q with h | h | h
      · exact absurd (e1.trans e2.symm) (hnd j q l1 l2 h)
      · exact h
      · exact absurd (e2.trans e1.symm) (hnd q j l2 l1 h)
    subst hjq
    rw [x3] at y3
    simp at y3
    exact ⟨rfl, by omega⟩
  · have := x1.symm.trans y1
    cases this
    exact absurd (List.mem_of_getElem? x2) y2
  · have := x1.symm.trans y1
    cases this
    exact absurd (List.mem_of_getElem? y2) x2
  · have := x1.symm.trans y1
    cases this
    exact ⟨rfl, rfl⟩
theorem ins_len {T T' : List Nod} {c : Nat} {p : List Stp} (h : InsS T p T' c) : T'.length ≤ T.length + p.length := by
  induction h with
  | nil => simp
  | snoc _ k ih =>
    rw [List.length_append, List.length_singleton]
    rcases k with ⟨n, j, -, -, -, rfl⟩ | ⟨n, hn, -, -, rfl⟩
    · omega
    · rw [List.length_append, List.length_set]; simp; omega
theorem bld_len {L : List (List Stp)} {T : List Nod} (h : BldT L T) : T.length ≤ 1 + (L.map List.length).sum := by
  induction h with
  | nil => simp
  | snoc _ k hn ih =>
    have := ins_len k
    rw [List.length_set]
    simp
    omega
theorem ins_fun {T T1 T2 : List Nod} {c1 c2 : Nat} {p : List Stp} {Q : Stp → Prop} {k : Nat} (hI : Inv Q T k) (hp : ∀ s ∈ p, Q s) (h1 : InsS T p T1 c1) (h2 : InsS T p T2 c2) : T1 = T2 ∧ c1 = c2 := by
  induction h1 generalizing T2 c2 with
  | nil =>
    generalize e : ([] : List Stp) = q at h2
    cases h2 with
    | nil => exact ⟨rfl, rfl⟩
    | snoc _ _ => simp at e
  | @snoc p s Ta Tb ca ra hi hk ih =>
    generalize e : p ++ [s] = q at h2
    cases h2 with
    | nil => simp at e
    | @snoc p' s' Ta' Tb' ca' ra' hi' hk' =>
      have e1 := List.append_inj' e rfl
      obtain ⟨rfl, e2⟩ := e1
      simp at e2
      subst e2
      obtain ⟨rfl, rfl⟩ := ih (fun x hx => hp x (by simp [hx])) hi'
      exact nx_fun (hI.ins hi (fun x hx => hp x (by simp [hx]))) hk hk'
theorem bld_fun {L : List (List Stp)} {T1 T2 : List Nod} (h1 : BldT L T1) (h2 : BldT L T2) : T1 = T2 := by
  induction h1 generalizing T2 with
  | nil =>
    generalize e : ([] : List (List Stp)) = q at h2
    cases h2 with
    | nil => rfl
    | snoc _ _ _ => simp at e
  | @snoc L p T Ta c n h k hn ih =>
    generalize e : L ++ [p] = q at h2
    cases h2 with
    | nil => simp at e
    | @snoc L' p' T' Ta' c' n' h' k' hn' =>
      have e1 := List.append_inj' e rfl
      obtain ⟨rfl, e2⟩ := e1
      simp at e2
      subst e2
      obtain rfl := ih h'
      obtain ⟨rfl, rfl⟩ := ins_fun (Q := fun _ => True) (h.inv (fun _ _ _ _ => trivial)) (fun _ _ => trivial) k k'
      rw [hn] at hn'
      cases hn'
      rfl
theorem isBld_uniq {L : List (List Stp)} {T T' : List Nod} {E E' : Int} (h : IsBld L T E) (h' : IsBld L T' E') : T = T' ∧ E = E' := by
  rcases h with ⟨h1, rfl, rfl⟩ | ⟨h1, ⟨p, h2, h3⟩, rfl, rfl⟩ | ⟨h1, h2, h3, rfl⟩ <;> rcases h' with ⟨g1, rfl, rfl⟩ | ⟨g1, ⟨q, g2, g3⟩, rfl, rfl⟩ | ⟨g1, g2, g3, rfl⟩
  · exact ⟨rfl, rfl⟩
  · omega
  · omega
  · omega
  · exact ⟨rfl, rfl⟩
  · rw [g2 p h2] at h3; cases h3
  · omega
  · rw [h2 q g2] at g3; cases g3
  · exact ⟨bld_fun h3 g3, rfl⟩
/-- The law's own trie is built of its own paths. -/
theorem smP_bld : BldT smP smT := by
  have s1 : InsS [nulN] ([] ++ [sA]) [⟨[sA], [1], []⟩, nulN] 1 := .snoc .nil (.inr ⟨nulN, rfl, by simp [nulN], rfl, rfl⟩)
  have s2 : InsS [nulN] (([] ++ [sA]) ++ [sB]) [⟨[sA], [1], []⟩, ⟨[sB], [2], []⟩, nulN] 2 := .snoc s1 (.inr ⟨nulN, rfl, by simp [nulN], rfl, rfl⟩)
  have t1 := BldT.snoc .nil s2 (n := nulN) rfl
  have s3 : InsS [⟨[sA], [1], []⟩, ⟨[sB], [2], []⟩, ⟨[], [], [0]⟩] ([] ++ [sA]) [⟨[sA], [1], []⟩, ⟨[sB], [2], []⟩, ⟨[], [], [0]⟩] 1 := .snoc .nil (.inl ⟨⟨[sA], [1], []⟩, 0, rfl, rfl, rfl, rfl⟩)
  have t2 := BldT.snoc t1 s3 (n := ⟨[sB], [2], []⟩) rfl
  exact t2
theorem smP_all : ∀ p ∈ smP, p.all fmS = true := fun p hp => by
  simp only [smP, List.mem_cons, List.not_mem_nil, or_false] at hp
  rcases hp with rfl | rfl
  · simp [fm_sA, fm_sB]
  · simp [fm_sA]
theorem smP_is {T : List Nod} {E : Int} (h : IsBld smP T E) : T = smT ∧ E = 0 := isBld_uniq h (.inr (.inr ⟨by decide, smP_all, smP_bld, rfl⟩))
theorem smP_mid : MidP smP := by
  refine ⟨by decide, fun p hp s hs => ?_, fun p hp s hs => ?_⟩
  · simp only [smP, List.mem_cons, List.not_mem_nil, or_false] at hp
    rcases hp with rfl | rfl
    · simp only [List.mem_cons, List.not_mem_nil, or_false] at hs
      rcases hs with rfl | rfl <;> decide
    · obtain rfl := List.mem_singleton.1 hs; decide
  · simp only [smP, List.mem_cons, List.not_mem_nil, or_false] at hp
    rcases hp with rfl | rfl
    · simp only [List.mem_cons, List.not_mem_nil, or_false] at hs
      rcases hs with rfl | rfl
      · exact sA_b sA (by simp)
      · exact sB_b sB (by simp)
    · exact sA_b s hs
end Go.Proofs.YtbabdhepnjacdaaDoor
