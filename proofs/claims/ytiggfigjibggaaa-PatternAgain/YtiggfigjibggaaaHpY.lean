/-
  PatternCounts: what is counted.
-/
import Derived.Test.YtiggfigjibggaaaHpX
namespace Go.Proofs.Ytiggfigjibggaaa
open Go.RowKit Go.Shelf Go.Maps
set_option linter.unusedSimpArgs false

/-- A call that learns that key. -/
def isK (r n : ByteArray) (o : OpV) : Prop := 0 ≤ o.p ∧ o.r = r ∧ o.n = n
noncomputable instance (r n : ByteArray) (o : OpV) : Decidable (isK r n o) := Classical.propDecidable _
/-- Place and hits of a key behind one more call. -/
noncomputable def khS (r n : ByteArray) (s : Int × Nat) (o : OpV) : Int × Nat := if isK r n o then (if o.p = s.1 then (s.1, s.2 + 1) else (o.p, 1)) else s
noncomputable def kh (r n : ByteArray) (l : List OpV) : Int × Nat := l.foldl (khS r n) (0, 0)
theorem kh_snoc (r n : ByteArray) (l : List OpV) (o : OpV) : kh r n (l ++ [o]) = khS r n (kh r n l) o := by unfold kh; rw [List.foldl_append]; rfl
theorem kh_no {r n : ByteArray} {l : List OpV} {o : OpV} (h : ¬ isK r n o) : kh r n (l ++ [o]) = kh r n l := by rw [kh_snoc, khS, if_neg h]
theorem kh_none {r n : ByteArray} {l : List OpV} (h : ∀ b ∈ l, ¬ isK r n b) : kh r n l = (0, 0) := by
  suffices ∀ s, l.foldl (khS r n) s = s from this _
  induction l with
  | nil => exact fun s => rfl
  | cons o l ih =>
    intro s
    rw [List.foldl_cons, khS, if_neg (h o (by simp))]
    exact ih (fun b hb => h b (by simp [hb])) s
theorem kh_le (r n : ByteArray) {M : Nat} : ∀ (l : List OpV), l.length ≤ M → (kh r n l).2 ≤ M := by
  suffices ∀ (l : List OpV) s, (l.foldl (khS r n) s).2 ≤ l.length + s.2 from fun l hl => by have := this l (0, 0); simp only at this; unfold kh; omega
  intro l
  induction l with
  | nil => intro s; simp
  | cons o l ih =>
    intro s
    rw [List.foldl_cons]
    have h1 := ih (khS r n s o)
    have h2 : (khS r n s o).2 ≤ s.2 + 1 := by
      unfold khS
      split
      · split
        · exact Nat.le_refl _
        · show 1 ≤ _; omega
      · omega
    rw [List.length_cons]
    omega
/-- The keys are apart. -/
def kApart (L : List Ent) : Prop := L.Pairwise fun x y => ¬ (x.r = y.r ∧ x.n = y.n)
/-- How many keys are met in a script. -/
inductive Fst : List OpV → Nat → Prop
  | nil : Fst [] 0
  | no {l : List OpV} {m : Nat} (o : OpV) (h : Fst l m) (ho : o.p < 0 ∨ ∃ b ∈ l, isK o.r o.n b) : Fst (l ++ [o]) m
  | yes {l : List OpV} {m : Nat} (o : OpV) (h : Fst l m) (hp : 0 ≤ o.p) (ho : ∀ b ∈ l, ¬ isK o.r o.n b) : Fst (l ++ [o]) (m + 1)
theorem Fst.le {l : List OpV} {m : Nat} (h : Fst l m) : m ≤ l.length := by
  induction h with
  | nil => exact Nat.le_refl _
  | no o h ho ih => rw [List.length_append]; omega
  | yes o h hp ho ih => rw [List.length_append]; simp; omega
theorem Fst.snoc {l : List OpV} {o : OpV} {k : Nat} (h : Fst (l ++ [o]) k) : ((o.p < 0 ∨ ∃ b ∈ l, isK o.r o.n b) ∧ Fst l k) ∨ (0 ≤ o.p ∧ (∀ b ∈ l, ¬ isK o.r o.n b) ∧ ∃ m, k = m + 1 ∧ Fst l m) := by
  generalize hq : l ++ [o] = q at h
  cases h with
  | nil => simp at hq
  | no o' h ho =>
    obtain ⟨rfl, h2⟩ := List.append_inj' hq rfl
    simp at h2
    subst h2
    exact .inl ⟨ho, h⟩
  | yes o' h hp ho =>
    obtain ⟨rfl, h2⟩ := List.append_inj' hq rfl
    simp at h2
    subst h2
    exact .inr ⟨hp, ho, _, rfl, h⟩
theorem LrnL.cnt {room : Nat} {ops : List OpV} {c : Nat} {L : List Ent} (h : LrnL room ops c L) : ops.length ≤ room → room ≤ 4096 →
    L.length ≤ ops.length ∧ kApart L ∧ (∀ e ∈ L, ((e.p : Int), e.h) = kh e.r e.n ops) ∧ (∀ b ∈ ops, 0 ≤ b.p → ∃ e ∈ L, e.r = b.r ∧ e.n = b.n) ∧ (∀ e ∈ L, ∃ b ∈ ops, isK e.r e.n b) ∧ (∀ m, Fst ops m → m = L.length) := by
  induction h with
  | nil =>
    intro _ _
    refine ⟨Nat.le_refl _, List.Pairwise.nil, fun e he => by simp at he, fun b hb => by simp at hb, fun e he => by simp at he, fun m hm => ?_⟩
    have := hm.le
    simpa using this
  | no o h hp ih =>
    intro hl hr
    rw [List.length_append] at hl
    obtain ⟨i1, i2, i3, i4, i5, i6⟩ := ih (by simp at hl; omega) hr
    refine ⟨by rw [List.length_append]; omega, i2, fun e he => by rw [kh_no (fun hk => by have := hk.1; omega)]; exact i3 e he, fun b hb hb0 => ?_, fun e he => ?_, fun m hm => ?_⟩
    · rcases List.mem_append.1 hb with hb | hb
      · exact i4 b hb hb0
      · obtain rfl := List.mem_singleton.1 hb
        omega
    · obtain ⟨b, h1, h2⟩ := i5 e he
      exact ⟨b, List.mem_append_left _ h1, h2⟩
    · rcases hm.snoc with ⟨-, h1⟩ | ⟨h1, -⟩
      · exact i6 m h1
      · omega
  | @yes ops c c' L L' o p h hp hl ih =>
    intro hl2 hr
    rw [List.length_append] at hl2
    simp only [List.length_singleton] at hl2
    obtain ⟨i1, i2, i3, i4, i5, i6⟩ := ih (by omega) hr
    have ok : isK o.r o.n o := ⟨by omega, rfl, rfl⟩
    rcases hl with ⟨A, e, B, rfl, her, hen, rfl, -⟩ | ⟨hno, ⟨h0, -⟩ | ⟨-, L1, h1, rfl, -⟩⟩
    · have hA : ∀ x ∈ A, ¬ isK x.r x.n o := fun x hx hk => (List.pairwise_append.1 i2).2.2 x hx e (by simp) ⟨hk.2.1.symm.trans her.symm, hk.2.2.symm.trans hen.symm⟩
      have hB : ∀ x ∈ B, ¬ isK x.r x.n o := fun x hx hk => (List.pairwise_cons.1 (List.pairwise_append.1 i2).2.1).1 x hx ⟨her.trans hk.2.1, hen.trans hk.2.2⟩
      have he := i3 e (by simp)
      have heh : e.h ≤ ops.length := by
        have h1 := kh_le e.r e.n ops (Nat.le_refl _)
        rw [← he] at h1
        exact h1
      refine ⟨by simp at i1 ⊢; omega, ?_, ?_, ?_, ?_, ?_⟩
      · unfold kApart at i2 ⊢
        obtain ⟨p1, p2, p3⟩ := List.pairwise_append.1 i2
        obtain ⟨p4, p5⟩ := List.pairwise_cons.1 p2
        refine List.pairwise_append.2 ⟨p1, List.pairwise_cons.2 ⟨fun x hx => by rw [upd_r, upd_n]; exact p4 x hx, p5⟩, fun x hx y hy => ?_⟩
        rcases List.mem_cons.1 hy with rfl | hy
        · rw [upd_r, upd_n]; exact p3 x hx e (by simp)
        · exact p3 x hx y (by simp [hy])
      · intro x hx
        rcases List.mem_append.1 hx with hx | hx
        · rw [kh_no (hA x hx)]; exact i3 x (by simp [hx])
        · rcases List.mem_cons.1 hx with rfl | hx
          · rw [upd_r, upd_n, her, hen, kh_snoc, khS, if_pos ok]
            rw [her, hen] at he
            rw [← he, hp]
            unfold upd
            by_cases hq : e.p = p
            · rw [if_pos hq, if_pos (by rw [hq])]
              simp only [Prod.mk.injEq, true_and]
              omega
            · rw [if_neg hq, if_neg (by omega)]
          · rw [kh_no (hB x hx)]; exact i3 x (by simp [hx])
      · intro b hb hb0
        rcases List.mem_append.1 hb with hb | hb
        · obtain ⟨x, hx, h1, h2⟩ := i4 b hb hb0
          rcases List.mem_append.1 hx with hx | hx
          · exact ⟨x, by simp [hx], h1, h2⟩
          · rcases List.mem_cons.1 hx with rfl | hx
            · exact ⟨upd x p, by simp, by rw [upd_r]; exact h1, by rw [upd_n]; exact h2⟩
            · exact ⟨x, by simp [hx], h1, h2⟩
        · obtain rfl := List.mem_singleton.1 hb
          exact ⟨upd e p, by simp, by rw [upd_r]; exact her, by rw [upd_n]; exact hen⟩
      · intro x hx
        rcases List.mem_append.1 hx with hx | hx
        · obtain ⟨b, h1, h2⟩ := i5 x (by simp [hx])
          exact ⟨b, List.mem_append_left _ h1, h2⟩
        · rcases List.mem_cons.1 hx with rfl | hx
          · exact ⟨o, by simp, by rw [upd_r, upd_n, her, hen]; exact ok⟩
          · obtain ⟨b, h1, h2⟩ := i5 x (by simp [hx])
            exact ⟨b, List.mem_append_left _ h1, h2⟩
      · intro m hm
        rcases hm.snoc with ⟨-, h1⟩ | ⟨-, h1, -⟩
        · have := i6 m h1
          simp at this ⊢
          exact this
        · exfalso
          obtain ⟨b, h2, h3⟩ := i5 e (by simp)
          rw [her, hen] at h3
          exact h1 b h2 h3
    · omega
    · have hL1 : L1 = L := by
        rcases h1 with ⟨-, rfl⟩ | ⟨h1, -⟩
        · rfl
        · omega
      subst hL1
      have hnone : ∀ b ∈ ops, ¬ isK o.r o.n b := by
        intro b hb hk
        obtain ⟨x, hx, h1, h2⟩ := i4 b hb hk.1
        exact hno x hx ⟨h1.trans hk.2.1, h2.trans hk.2.2⟩
      have hne : ∀ x ∈ L1, ¬ isK x.r x.n o := fun x hx hk => hno x hx ⟨hk.2.1.symm, hk.2.2.symm⟩
      refine ⟨by simp; omega, ?_, ?_, ?_, ?_, ?_⟩
      · refine List.pairwise_append.2 ⟨i2, List.pairwise_singleton _ _, fun x hx y hy => ?_⟩
        obtain rfl := List.mem_singleton.1 hy
        exact hno x hx
      · intro x hx
        rcases List.mem_append.1 hx with hx | hx
        · rw [kh_no (hne x hx)]; exact i3 x hx
        · obtain rfl := List.mem_singleton.1 hx
          rw [kh_snoc, kh_none hnone, khS, if_pos ok, hp]
          by_cases hq : (p : Int) = 0
          · rw [if_pos hq]
            show ((p : Int), 1) = _
            rw [hq]
          · rw [if_neg hq]
      · intro b hb hb0
        rcases List.mem_append.1 hb with hb | hb
        · obtain ⟨x, hx, h1, h2⟩ := i4 b hb hb0
          exact ⟨x, by simp [hx], h1, h2⟩
        · obtain rfl := List.mem_singleton.1 hb
          exact ⟨_, List.mem_append_right _ (List.mem_singleton.2 rfl), rfl, rfl⟩
      · intro x hx
        rcases List.mem_append.1 hx with hx | hx
        · obtain ⟨b, h1, h2⟩ := i5 x hx
          exact ⟨b, List.mem_append_left _ h1, h2⟩
        · obtain rfl := List.mem_singleton.1 hx
          exact ⟨o, by simp, ok⟩
      · intro m hm
        rcases hm.snoc with ⟨h1 | ⟨b, h1, h2⟩, -⟩ | ⟨-, -, m', rfl, h1⟩
        · omega
        · exact absurd h2 (hnone b h1)
        · have := i6 m' h1
          simp; omega
set_option maxRecDepth 20000 in
/-- Two learnt places that differ. -/
theorem neLr {r n r' n' : ByteArray} {p h p' h' : Int} (hne : ¬ (r = r' ∧ n = n' ∧ p = p' ∧ h = h')) (u : World) : (Op.equalIn 10000 25 (.agg #[.string r, .string n, .int .i64 p, .int .i64 h]) (.agg #[.string r', .string n', .int .i64 p', .int .i64 h'])).run Try.prog u = .ok false u := by
  have hf : ((Try.prog.fieldsOf 25).toList.map fun f => (decide (f.name ≠ "_"), f.type, f.offset)) = [(true, 9, 0), (true, 9, 1), (true, 3, 2), (true, 3, 3)] := by kernel_rfl
  rw [run_equalIn_struct u 9999 25 _ _ Try.underlying25 (by kernel_rfl)]
  generalize (Try.prog.fieldsOf 25).toList = fs at hf
  obtain ⟨f0, fs1, rfl, h0, hf1⟩ := List.map_eq_cons_iff.1 hf
  obtain ⟨f1, fs2, rfl, h1, hf2⟩ := List.map_eq_cons_iff.1 hf1
  obtain ⟨f2, fs3, rfl, h2, hf3⟩ := List.map_eq_cons_iff.1 hf2
  obtain ⟨f3, fs4, rfl, h3, hf4⟩ := List.map_eq_cons_iff.1 hf3
  obtain rfl := List.map_eq_nil_iff.1 hf4
  simp only [Prod.mk.injEq] at h0 h1 h2 h3
  obtain ⟨n0, t0, o0⟩ := h0
  obtain ⟨n1, t1, o1⟩ := h1
  obtain ⟨n2, t2, o2⟩ := h2
  obtain ⟨n3, t3, o3⟩ := h3
  have q0 : ∀ v0 v1 v2 v3, (Go.part 9 #[v0, v1, v2, v3] 0).run Try.prog u = .ok v0 u := fun _ _ _ _ => by kernel_rfl
  have q1 : ∀ v0 v1 v2 v3, (Go.part 9 #[v0, v1, v2, v3] 1).run Try.prog u = .ok v1 u := fun _ _ _ _ => by kernel_rfl
  have q2 : ∀ v0 v1 v2 v3, (Go.part 3 #[v0, v1, v2, v3] 2).run Try.prog u = .ok v2 u := fun _ _ _ _ => by kernel_rfl
  have q3 : ∀ v0 v1 v2 v3, (Go.part 3 #[v0, v1, v2, v3] 3).run Try.prog u = .ok v3 u := fun _ _ _ _ => by kernel_rfl
  have b0 := run_equalIn_string (P := Try.prog) u 9998 9 r r' Try.underlying9
  have b1 := run_equalIn_string (P := Try.prog) u 9998 9 n n' Try.underlying9
  have b2 := run_equalIn_int (P := Try.prog) u 9998 3 .i64 .i64 p p' Try.underlying3
  have b3 := run_equalIn_int (P := Try.prog) u 9998 3 .i64 .i64 h h' Try.underlying3
  simp only [Nat.reduceAdd] at b0 b1 b2 b3
  simp only [Op.eqFields, if_pos (of_decide_eq_true n0), if_pos (of_decide_eq_true n1), if_pos (of_decide_eq_true n2), if_pos (of_decide_eq_true n3), t0, o0, t1, o1, t2, o2, t3, o3, Sem.run_bind, q0, q1, q2, q3, Result.andThen_ok, b0, b1, b2, b3]
  by_cases e0 : r = r'
  · subst e0
    by_cases e1 : n = n'
    · subst e1
      by_cases e2 : p = p'
      · subst e2
        have e3 : (h == h') = false := by simpa using fun e => hne ⟨rfl, rfl, rfl, e⟩
        simp [e3, q0, q1, q2, q3, b0, b1, b2, b3]
      · have e3 : (p == p') = false := by simpa using e2
        simp [e3, q0, q1, q2, q3, b0, b1, b2, b3]
    · have e3 : (n.toList == n'.toList) = false := by simpa using toList_ne e1
      simp [e3, q0, q1, q2, q3, b0, b1, b2, b3]
  · have e3 : (r.toList == r'.toList) = false := by simpa using toList_ne e0
    simp [e3, q0, q1, q2, q3, b0, b1, b2, b3]
end Go.Proofs.Ytiggfigjibggaaa
