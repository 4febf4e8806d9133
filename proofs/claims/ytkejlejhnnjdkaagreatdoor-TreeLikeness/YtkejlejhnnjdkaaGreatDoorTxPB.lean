/-
  What an escape means, held against the piece of the reference; strings.Builder's WriteRune.
-/
import Derived.Test.YtkejlejhnnjdkaaGreatDoorTxPA
import Derived.Test.YtkejlejhnnjdkaaGreatDoorBldB
import Derived.Test.YtkejlejhnnjdkaaGreatDoorShelfE
namespace Go.Proofs.YtkejlejhnnjdkaaGreatDoor
open Go.RowKit Go.Shelf
theorem nextP_zero (b : Nat → Nat) (n : Nat) (h : (nextP b n).size = 0) : nextP b n = pc0 := by
  revert h
  unfold nextP
  repeat' split
  all_goals first
    | (intro _; rfl)
    | (intro h; cases h; done)
    | (unfold fourP
       split
       · intro h; cases h
       · intro _; rfl)
theorem nextP_short (b : Nat → Nat) (n : Nat) (h0 : b 0 = 92) (h : (nextP b n).four = false) : (nextP b n).means < 128 := by
  revert h
  unfold nextP
  repeat' split
  all_goals first
    | (intro _; simp only [pc0]; omega)
    | (unfold fourP
       split
       · intro h; cases h
       · intro _; decide)
/-- Where a piece is one of four digits, it is the escape. -/
theorem next_sg {b : Nat → Nat} {n : Nat} (h : (nextP b n).four = true) : sgP b n = nextP b n := by
  unfold sgP
  by_cases hc : 2 ≤ n ∧ b 0 = 92
  · rw [if_pos hc]
  · exfalso
    revert h
    unfold nextP
    repeat' split
    all_goals first
      | (intro h; cases h; done)
      | (intro _; omega)
theorem sg_big {b : Nat → Nat} {n : Nat} (h : 256 ≤ (sgP b n).means) : sgP b n = nextP b n ∧ (nextP b n).four = true := by
  unfold sgP at h ⊢
  by_cases hc : 2 ≤ n ∧ b 0 = 92
  · rw [if_pos hc] at h ⊢
    refine ⟨rfl, ?_⟩
    cases hf : (nextP b n).four with
    | true => rfl
    | false =>
      have := nextP_short b n hc.2 hf
      omega
  · rw [if_neg hc] at h
    simp [pc0] at h
theorem charL_one {n : Nat} (h : n < 128) : charL n = [n] := by
  unfold charL
  rw [if_pos h]
/-- Of what doesn't stand for itself: the step is what the escape means. -/
theorem step_mean {l : List Nat} (hp : plB (lb l 0) = false) : stepL l = if (meanL l).2 = 0 then none else some ((meanL l).2, charL (meanL l).1) := by
  have none_of : nextL l = pc0 → sgL l = pc0 → stepL l = if (meanL l).2 = 0 then none else some ((meanL l).2, charL (meanL l).1) := fun e e2 => by
    have hS : stepL l = none := by
      unfold stepL
      rw [if_pos (by rw [e]; rfl)]
    have hM : meanL l = (0, 0) := by
      unfold meanL
      rw [if_pos (.inl (by rw [e2]; decide)), e2]
      rfl
    rw [hS, hM]
    rfl
  by_cases h92 : lb l 0 = 92
  · by_cases h2 : 2 ≤ l.length
    · have e : sgL l = nextL l := by unfold sgL sgP nextL; rw [if_pos ⟨h2, h92⟩]
      by_cases h0 : (nextL l).size = 0
      · have e0 : nextL l = pc0 := nextP_zero _ _ h0
        exact none_of e0 (e.trans e0)
      · have hone : (nextL l).four = false → (nextL l).means < 128 := nextP_short _ _ h92
        by_cases hh : highP (nextL l) = true
        · have hh2 := hh
          unfold highP at hh2
          simp only [Bool.and_eq_true, decide_eq_true_eq] at hh2
          by_cases hl : (nextL l).size < l.length ∧ lowP (nextL (l.drop (nextL l).size)) = true
          · have hl2 := hl.2
            unfold lowP at hl2
            simp only [Bool.and_eq_true, decide_eq_true_eq] at hl2
            have e2 : sgL (l.drop (nextL l).size) = nextL (l.drop (nextL l).size) := next_sg hl2.1
            have hS : stepL l = some ((nextL l).size + (nextL (l.drop (nextL l).size)).size, charL (65536 + ((nextL l).means - 55296) * 1024 + ((nextL (l.drop (nextL l).size)).means - 56320))) := by
              unfold stepL
              rw [if_neg h0, if_pos ⟨hh, hl⟩]
            have hM : meanL l = (65536 + ((nextL l).means - 55296) * 1024 + ((nextL (l.drop (nextL l).size)).means - 56320), (nextL l).size + (nextL (l.drop (nextL l).size)).size) := by
              unfold meanL
              rw [e, e2, if_neg (by omega), if_pos (by omega)]
            rw [hS, hM]
            dsimp only
            rw [if_neg (by omega)]
          · have hS : stepL l = some ((nextL l).size, charL 65533) := by
              unfold stepL
              rw [if_neg h0, if_neg (fun h => hl h.2), if_pos (.inl hh)]
            have hM : meanL l = (65533, (nextL l).size) := by
              unfold meanL
              rw [e, if_neg (by omega), if_neg ?_]
              rintro ⟨-, q1, q2⟩
              have q3 := sg_big (b := lb (l.drop (nextL l).size)) (n := (l.drop (nextL l).size).length) (show 256 ≤ (sgL (l.drop (nextL l).size)).means by omega)
              have q4 : sgL (l.drop (nextL l).size) = nextL (l.drop (nextL l).size) := q3.1
              rw [q4] at q1 q2
              apply hl
              refine ⟨?_, ?_⟩
              · by_cases hlt : (nextL l).size < l.length
                · exact hlt
                · exfalso
                  rw [List.drop_eq_nil_of_le (by omega)] at q1
                  have : (nextL []).means = 0 := by decide
                  omega
              · unfold lowP
                rw [show (nextL (l.drop (nextL l).size)).four = true from q3.2]
                simp [q1, q2]
            rw [hS, hM]
            dsimp only
            rw [if_neg h0]
        · by_cases hlo : lowP (nextL l) = true
          · have hlo2 := hlo
            unfold lowP at hlo2
            simp only [Bool.and_eq_true, decide_eq_true_eq] at hlo2
            have hS : stepL l = some ((nextL l).size, charL 65533) := by
              unfold stepL
              rw [if_neg h0, if_neg (fun h => hh h.1), if_pos (.inr hlo)]
            have hM : meanL l = (65533, (nextL l).size) := by
              unfold meanL
              rw [e, if_neg (by omega), if_neg (by omega)]
            rw [hS, hM]
            dsimp only
            rw [if_neg h0]
          · have hM : ¬ (55296 ≤ (nextL l).means ∧ (nextL l).means ≤ 57343) → meanL l = ((nextL l).means, (nextL l).size) := fun hx => by
              unfold meanL
              rw [e, if_pos (by omega)]
            cases hf : (nextL l).four with
            | true =>
              have hS : stepL l = some ((nextL l).size, charL (nextL l).means) := by
                unfold stepL
                rw [if_neg h0, if_neg (fun h => hh h.1), if_neg (fun h => h.elim hh hlo), if_pos hf]
              unfold highP at hh
              unfold lowP at hlo
              rw [hf] at hh hlo
              simp only [Bool.true_and, Bool.and_eq_true, decide_eq_true_eq] at hh hlo
              rw [hS, hM (by omega)]
              dsimp only
              rw [if_neg h0]
            | false =>
              have h128 := hone hf
              have hS : stepL l = some ((nextL l).size, [(nextL l).means]) := by
                unfold stepL
                rw [if_neg h0, if_neg (fun h => hh h.1), if_neg (fun h => h.elim hh hlo), if_neg (by rw [hf]; simp)]
              rw [hS, hM (by omega)]
              dsimp only
              rw [if_neg h0, charL_one h128]
    · have e : nextL l = pc0 := by
        unfold nextL nextP
        rw [h92, if_neg (by decide), if_neg (by simp), if_pos (by omega)]
      have e2 : sgL l = pc0 := by unfold sgL sgP; rw [if_neg (by omega)]
      exact none_of e e2
  · have e : nextL l = pc0 := by
      unfold plB at hp
      simp only [decide_eq_false_iff_not] at hp
      unfold nextL nextP
      rw [if_pos (by omega)]
    have e2 : sgL l = pc0 := by unfold sgL sgP; rw [if_neg (fun h => h92 h.2)]
    exact none_of e e2
theorem mean_lt {l : List Nat} (h : ∀ x ∈ l, x < 256) : (meanL l).1 < 1114112 ∧ ¬ (55296 ≤ (meanL l).1 ∧ (meanL l).1 ≤ 57343) ∧ (meanL l).2 ≤ l.length := by
  have h1 := sgL_size h
  have h2 := sgL_size (l := l.drop (sgL l).size) (fun x hx => h x (List.mem_of_mem_drop hx))
  rw [List.length_drop] at h2
  unfold meanL
  split
  · dsimp only; omega
  · split <;> dsimp only <;> omega
theorem plain_step {l : List Nat} (hp : plB (lb l 0) = true) : stepL l = some (1, [lb l 0]) := by
  unfold plB at hp
  simp only [decide_eq_true_eq] at hp
  have e : nextL l = ⟨1, lb l 0, false⟩ := by
    unfold nextL nextP
    rw [if_neg (by omega), if_pos (by omega)]
  unfold stepL
  rw [e, if_neg (by simp), if_neg (by simp [highP]), if_neg (by simp [highP, lowP]), if_neg (by simp)]
/-- A row of bytes that stand for themselves. -/
theorem UnR.plain {s : ByteArray} : ∀ (k : Nat) {r r' : ByteArray} {o : List Nat}, UnR s r o → k ≤ r.size → (∀ i, i < k → plB (bAt r i) = true) → byts r' = (byts r).drop k → UnR s r' (o ++ (byts r).take k)
  | 0, r, r', o, h, _, _, hr' => by
    rw [List.drop_zero] at hr'
    obtain rfl : r' = r := byts_inj hr'
    simpa using h
  | k + 1, r, r', o, h, hk, hp, hr' => by
    have hb : byts (r.extract 1 r.size) = (byts r).drop 1 := (byts_from r 1).1
    have hz : (r.extract 1 r.size).size = r.size - 1 := (byts_from r 1).2
    have hne : byts r ≠ [] := fun e => by
      have := byts_length r
      rw [e] at this
      simp at this
      omega
    have hs := plain_step (l := byts r) (by rw [← bAt_lb]; exact hp 0 (by omega))
    have h1 := (UnR.step h (by omega) hs hb).1
    have h2 := UnR.plain k (r' := r') h1 (by omega) (fun i hi => by rw [bAt_lb, hb, lb_drop, ← bAt_lb]; exact hp (1 + i) (by omega)) (by rw [hb, List.drop_drop, hr', Nat.add_comm])
    have e : o ++ [lb (byts r) 0] ++ (byts (r.extract 1 r.size)).take k = o ++ (byts r).take (k + 1) := by
      rw [hb]
      cases hl : byts r with
      | nil => exact absurd hl hne
      | cons x t => simp [lb]
    rw [e] at h2
    exact h2
/-- The bytes of a character, as strings.Builder writes them. -/
theorem rune_cells {n : Nat} (h : n < 1114112) (hn : ¬ (55296 ≤ n ∧ n ≤ 57343)) : Lib.runeCells (n : Int) = Lib.byteCells ((charL n).map UInt8.ofNat) := by
  have hb : ∀ L : List Nat, (∀ x ∈ L, x < 256) → Lib.byteCells (L.map UInt8.ofNat) = L.map (fun (x : Nat) => Value.int .u8 (x : Int)) := by
    intro L hL
    induction L with
    | nil => rfl
    | cons x t ih =>
      have hx : x < 256 := hL x (by simp)
      have := ih (fun y hy => hL y (by simp [hy]))
      unfold Lib.byteCells at this ⊢
      rw [List.map_cons, List.map_cons, List.map_cons, this]
      congr 2
      simp
      omega
  rw [hb _ (charL_lt h)]
  unfold charL
  split
  · simp [Lib.runeCells, Lib.encodeRuneZ_one (r := (n : Int)) (by omega) (by omega)]
  · split
    · simp [Lib.runeCells, Lib.encodeRuneZ_two (r := (n : Int)) (by omega) (by omega)]
    · split
      · simp [Lib.runeCells, Lib.encodeRuneZ_three (r := (n : Int)) (by omega)]
      · simp [Lib.runeCells, Lib.encodeRuneZ_four (r := (n : Int)) (by omega) (by omega)]
set_option maxRecDepth 100000 in
set_option maxHeartbeats 2000000 in
theorem brune_used (m B : Nat) (v : Value) (l : List UInt8) (r : Nat) (hr : r < 1114112) (hrn : ¬ (55296 ≤ r ∧ r ≤ 57343)) (hm : m < B) (hn : l.length + 4 ≤ 140737488355328) (w : World) (w0 : World) (h : At w m #[.pointer (some ⟨m, 0, none⟩), v] 132) (hrow : w.ownsRow B 5 1 v l.length (Lib.byteCells l)) (hB : B ≤ w.heap.size)
    (hck : Calls Tryz.prog 137 #[.pointer (some ⟨m, 0, none⟩)] w0 fun e w' => e = .returned (.tuple #[]) ∧ w' = w) (hh : Below m w0 w) :
    Calls Tryz.prog 113 #[.pointer (some ⟨m, 0, none⟩), .int .i32 (r : Int)] w0 fun e w' => (∃ k, e = .returned (.tuple #[.int .i64 k, .nilIface])) ∧ BdI w' m B (l ++ (charL r).map UInt8.ofNat) ∧ Below m w0 w' := by
  have hap : Hid (Calls Tryz.prog 139 #[v, .int .i32 (r : Int)] w fun e w' => ∃ v', e = .returned v' ∧ w'.ownsRow B 5 1 v' (l.length + (Lib.runeCells (r : Int)).length) (Lib.byteCells l ++ Lib.runeCells (r : Int)) ∧ ∃ o, (w.alloc o).grownBy w' v.ownBlock) :=
    Any.utf8_AppendRune_plain Tryz.lays242 (by kernel_rfl) B v l.length (Lib.byteCells l) (r : Int) (by omega) (by omega) w hrow hn hB
  have hL := hid (Lib.encodeRuneZ_length (r : Int))
  have hcl : Hid ((Lib.runeCells (r : Int)).length ≤ 4) := by
    show _ ≤ _
    unfold Lib.runeCells
    rw [List.length_map]
    exact hL.out.2
  have hrc := hid (rune_cells hr hrn)
  have hlr : Hid (((charL r).map UInt8.ofNat).length = (Lib.runeCells (r : Int)).length) := by
    show _ = _
    rw [hrc.out, Lib.byteCells_length]
  have hck' := hid hck
  have hh' := hid hh
  have h' := hid h
  have hrow' := hid hrow
  have hm' := hid hm
  have hB' := hid hB
  have hn' := hid hn
  have c0 : w.cell? ⟨m, 0, none⟩ = some (.pointer (some ⟨m, 0, none⟩)) := h.cell 0
  have c1 : w.cell? ⟨m, 1, none⟩ = some v := h.cell 1
  obtain ⟨so, cc, rfl⟩ := rowY_slice hrow
  obtain ⟨ln, hln⟩ : ∃ ln, Hid (l.length = ln) := ⟨_, rfl⟩
  rw [hln.out] at hap hrow' c1 h' hn'
  have hnl : ln ≤ 140737488355328 := by have := hn'.out; omega
  clear hck h hrow hh hm hB hn hL
  go_enter Tryz.func113, Tryz.ntmps113
  go_wp2_with fail
  refine Calls.mono hck'.out ?_
  rintro e w1 ⟨rfl, hw1⟩
  obtain rfl := hw1.symm
  clear hck' hw1
  go_wp2_with fail
  refine Calls.mono hap.out ?_
  rintro e w3 ⟨v', rfl, hown3, o, hg⟩
  obtain ⟨so3, cc3, rfl⟩ := rowY_slice hown3
  have h2 := hid (h'.out.alloc o)
  have hrow2 := hid (World.ownsRow.alloc hrow'.out o)
  have a1 : At w3 m #[.pointer (some ⟨m, 0, none⟩), .slice so ln cc] 132 := (hg.block m h2.out.lt (fun e => by have := (hrow2.out.lt m e.symm).1; have := hm'.out; omega)).trans h2.out
  have f1 : w3.frozen? ⟨m, 1, none⟩ = false := a1.frozen 1
  have d1 : w3.cell? ⟨m, 1, none⟩ = some (.slice so ln cc) := a1.cell 1
  have d0 : w3.cell? ⟨m, 0, none⟩ = some (.pointer (some ⟨m, 0, none⟩)) := a1.cell 0
  obtain ⟨L3, hL3⟩ : ∃ L3, Hid (ln + (Lib.runeCells (r : Int)).length = L3) := ⟨_, rfl⟩
  rw [hL3.out] at hown3
  rw [hL3.out]
  have hL3b : L3 ≤ 140737488355328 := by have := hL3.out; have := hcl.out; have := hn'.out; omega
  have hL3c : ln ≤ L3 := by have := hL3.out; omega
  have a1' := hid a1
  have hown3' := hid hown3
  have hg' := hid hg
  clear a1 hown3 hg hap
  go_wp2
  refine bodyPost_ret (v := .tuple #[.int .i64 ((L3 : Int) - (ln : Int)), .nilIface]) (by simp [results, Tryz.results113, go_sem]; try decide) rfl ⟨⟨_, rfl⟩, ?_, ?_⟩
  · have a2 : At (w3.setCell ⟨m, 1, none⟩ (.slice so3 L3 cc3)) m #[.pointer (some ⟨m, 0, none⟩), .slice so3 L3 cc3] 132 := by have := a1'.out.set 1 (.slice so3 L3 cc3); simpa using this
    refine ⟨_, _, a2, .inr rfl, ?_⟩
    have h3 := ownsRow_setCell_below hown3'.out (a := ⟨m, 1, none⟩) hm'.out (.slice so3 L3 cc3)
    rw [List.length_append, hlr.out, hln.out, hL3.out, Lib.byteCells_append, ← hrc.out]
    exact h3
  · have h4 : Below m (w.alloc o) (w3.setCell ⟨m, 1, none⟩ (.slice so3 L3 cc3)) := ((Below.refl m _).grown hg'.out (by have := h2.out.lt; omega) (fun b e => by have := (hrow2.out.lt b e).1; have := hm'.out; omega)).setCell (p := ⟨m, 1, none⟩) (Nat.le_refl _) _
    exact hh'.out.trans (((Below.refl _ _).alloc (Nat.le_trans (Nat.le_of_lt hm'.out) hB'.out) _).trans h4)
theorem brune_calls (m B : Nat) (l : List UInt8) (r : Nat) (hr : r < 1114112) (hrn : ¬ (55296 ≤ r ∧ r ≤ 57343)) (hm : m < B) (hn : l.length + 4 ≤ 140737488355328) (w : World) (h : BdI w m B l) (hB : B ≤ w.heap.size) :
    Calls Tryz.prog 113 #[.pointer (some ⟨m, 0, none⟩), .int .i32 (r : Int)] w fun e w' => (∃ k, e = .returned (.tuple #[.int .i64 k, .nilIface])) ∧ BdI w' m B (l ++ (charL r).map UInt8.ofNat) ∧ Below m w w' := by
  obtain ⟨p, v, h1, rfl | rfl, h2⟩ := h
  · have a1 : At (w.setCell ⟨m, 0, none⟩ (.pointer (some ⟨m, 0, none⟩))) m #[.pointer (some ⟨m, 0, none⟩), v] 132 := by have := h1.set 0 (.pointer (some ⟨m, 0, none⟩)); simpa using this
    exact brune_used m B v l r hr hrn hm hn _ w a1 (ownsRow_setCell_below h2 (a := ⟨m, 0, none⟩) hm _) (Nat.le_trans hB (KeepsOthers.setCell w ⟨m, 0, none⟩ (.pointer (some ⟨m, 0, none⟩))).1) (bcheck_fresh m v w h1) ((Below.refl m w).setCell (p := ⟨m, 0, none⟩) (Nat.le_refl _) _)
  · exact brune_used m B v l r hr hrn hm hn w w h1 h2 hB (bcheck_used m v w h1) (Below.refl _ _)
end Go.Proofs.YtkejlejhnnjdkaaGreatDoor
