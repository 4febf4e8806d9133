/-
  The walk of quarrylaw09.PiecesGroups.
-/
import Derived.Test.YtdmmofdlokgfmaaDoorPStates
import Derived.Test.YtdmmofdlokgfmaaDoorRoundQuiet
import Derived.Deep.DeepCutAuto
namespace Go.Proofs.YtdmmofdlokgfmaaDoor
open Go.RowKit Go.Shelf

theorem pick_odd (t : ByteArray) (q : Bool) : pickB (bi q) (oddC t false) (oddC t true) = oddC t q := by cases q <;> rfl
theorem pick_out (t : ByteArray) (q : Bool) : pickI (bi q) (bi (behindS t false)) (bi (behindS t true)) = bi (behindS t q) := by cases q <;> rfl
theorem xor_neq (a b : Bool) : (a ^^ b) = !(a == b) := by cases a <;> cases b <;> rfl
/-- The Part of two texts one behind the other. -/
theorem join_of {s t : ByteArray} {a b : Bool} {x y : Int} {a' b' : Bool} {x' y' : Int} {c d : Bool} {u v : Int} (h1 : IsPt s a b x y) (h2 : IsPt t a' b' x' y') (h3 : IsPt (s ++ t) c d u v) : joinV a b x y a' b' x' y' = .agg #[.bool c, .bool d, .int .i64 u, .int .i64 v] := by
  obtain ⟨rfl, rfl, rfl, rfl⟩ := h1
  obtain ⟨rfl, rfl, rfl, rfl⟩ := h2
  obtain ⟨rfl, rfl, rfl, rfl⟩ := h3
  rw [joinV, formed_of s, formed_of t, Bool.and_self, if_pos rfl, pick_odd, pick_odd, pick_out, pick_out, oddC_join, oddC_join, behind_join, behind_join, xor_neq, xor_neq]
theorem app_nil9 (s : ByteArray) : s ++ (⟨#[]⟩ : ByteArray) = s := by
  apply ByteArray.ext
  rw [ByteArray.data_append]
  simp
theorem nil_app9 (s : ByteArray) : (⟨#[]⟩ : ByteArray) ++ s = s := by
  apply ByteArray.ext
  rw [ByteArray.data_append]
  simp
theorem app_assoc9 (s t u : ByteArray) : s ++ (t ++ u) = s ++ t ++ u := by
  apply ByteArray.ext
  simp [ByteArray.data_append, Array.append_assoc]
theorem isPt_nil : IsPt ⟨#[]⟩ false false 0 1 := ⟨rfl, rfl, rfl, rfl⟩

/-- These variables hold these Parts. -/
def GrL (w : World) (l : List (Nat × Array Value)) (W : World) : Prop := (∀ x ∈ l, At W x.1 x.2 33) ∧ Below w.heap.size w W
section
variable {w W Z : World} {l : List (Nat × Array Value)}
theorem keptG (h : GrL w l W) (hb : Below W.heap.size W Z) : GrL w l Z := ⟨fun x hx => (h.1 x hx).keptAll hb, h.2.trans (hb.mono h.2.size)⟩
theorem lo_of (h : GrL w l W) : (∀ x ∈ l, x.1 < W.heap.size) ∧ w.heap.size ≤ W.heap.size := ⟨fun x hx => (h.1 x hx).lt, h.2.size⟩
theorem pushG (h : GrL w l W) {m : Nat} {A : Array Value} (hm : At W m A 33) : GrL w (l ++ [(m, A)]) W := ⟨fun x hx => by
  rcases List.mem_append.1 hx with hx | hx
  · exact h.1 x hx
  · obtain rfl : x = (m, A) := by simpa using hx
    exact hm, h.2⟩
theorem fin_put {p : Nat} {x0 x1 x2 x3 y0 y1 y2 y3 : Value} (hp : At W p #[x0, x1, x2, x3] 33) (h : GrL w l W) (hlo : Hid ((∀ x ∈ l, x.1 < p) ∧ w.heap.size ≤ p)) :
    At ((((W.setCell ⟨p, 0, none⟩ y0).setCell ⟨p, 1, none⟩ y1).setCell ⟨p, 2, none⟩ y2).setCell ⟨p, 3, none⟩ y3) p #[y0, y1, y2, y3] 33 ∧ GrL w l ((((W.setCell ⟨p, 0, none⟩ y0).setCell ⟨p, 1, none⟩ y1).setCell ⟨p, 2, none⟩ y2).setCell ⟨p, 3, none⟩ y3) :=
  ⟨hp.four9, fun x hx => by
    have hne : x.1 ≠ p := by have := hlo.out.1 x hx; omega
    exact ((((h.1 x hx).other (p := ⟨p, 0, none⟩) hne _).other (p := ⟨p, 1, none⟩) hne _).other (p := ⟨p, 2, none⟩) hne _).other (p := ⟨p, 3, none⟩) hne _, below_four h.2 hlo.out.2 _ _ _ _⟩
end

set_option maxRecDepth 10000 in
set_option maxHeartbeats 8000000 in
theorem piecesGroups_walk (s : ByteArray) (hs : s.size ≤ reachBytes) (t : ByteArray) (ht : t.size ≤ reachBytes) (u : ByteArray) (hu : u.size ≤ reachBytes) (w : World) (hT : Tab w) (h0 : 0 < w.heap.size) :
    Calls Tryd.prog 6 #[.string s, .string t, .string u] w fun e w' => e = .returned (.bool true) ∧ Below w.heap.size w w' := by
  have hs1 : s.size ≤ 140737488351232 := hs
  have ht1 : t.size ≤ 140737488351232 := ht
  have hu1 : u.size ≤ 140737488351232 := hu
  obtain ⟨r, hr⟩ : ∃ r, s ++ t = r := ⟨_, rfl⟩
  obtain ⟨z, hz⟩ : ∃ z, r ++ u = z := ⟨_, rfl⟩
  have hrz : r.size = s.size + t.size := by rw [← hr]; exact size_join9 s t
  have hzz : z.size = r.size + u.size := by rw [← hz]; exact size_join9 r u
  obtain ⟨a1, b1, x1, y1, i1⟩ := isPt_ex s
  obtain ⟨a2, b2, x2, y2, i2⟩ := isPt_ex t
  obtain ⟨a3, b3, x3, y3, i3⟩ := isPt_ex u
  obtain ⟨a4, b4, x4, y4, i4⟩ := isPt_ex z
  obtain ⟨a5, b5, x5, y5, i5⟩ := isPt_ex r
  obtain ⟨a6, b6, x6, y6, i6⟩ := isPt_ex (t ++ u)
  obtain ⟨a0, b0, x0, y0, i0⟩ := isPt_ex ⟨#[]⟩
  have ha1 : ∀ v : World, (Op.stringOp .add s t).run Tryd.prog v = .ok (.string r) v := fun v => by rw [run_string_add_sum v s t (by omega), hr]
  have ha2 : ∀ v : World, (Op.stringOp .add r u).run Tryd.prog v = .ok (.string z) v := fun v => by rw [run_string_add_sum v r u (by omega), hz]
  have hj12 := hid (fun (v : World) => join9_calls a1 b1 x1 y1 a2 b2 x2 y2 _ (join_of i1 i2 (by rw [hr]; exact i5)) v)
  have hj12_3 := hid (fun (v : World) => join9_calls a5 b5 x5 y5 a3 b3 x3 y3 _ (join_of i5 i3 (by rw [hz]; exact i4)) v)
  have hj23 := hid (fun (v : World) => join9_calls a2 b2 x2 y2 a3 b3 x3 y3 _ (join_of i2 i3 i6) v)
  have hj1_23 := hid (fun (v : World) => join9_calls a1 b1 x1 y1 a6 b6 x6 y6 _ (join_of i1 i6 (by rw [app_assoc9, hr, hz]; exact i4)) v)
  have hj10 := hid (fun (v : World) => join9_calls a1 b1 x1 y1 a0 b0 x0 y0 _ (join_of i1 i0 (by rw [app_nil9]; exact i1)) v)
  have hj01 := hid (fun (v : World) => join9_calls a0 b0 x0 y0 a1 b1 x1 y1 _ (join_of i0 i1 (by rw [nil_app9]; exact i1)) v)
  have hf4 := hid (fun (v : World) => formed9_calls a4 b4 x4 y4 true (by show _ = _; obtain ⟨rfl, rfl, rfl, rfl⟩ := i4; exact formed_of z) v)
  have hO1 := hid (fun (v : World) (hb : Below w.heap.size w v) => of_calls s (by omega) a1 b1 x1 y1 i1 v (hT.below hb h0) (Nat.lt_of_lt_of_le h0 hb.size))
  have hO2 := hid (fun (v : World) (hb : Below w.heap.size w v) => of_calls t (by omega) a2 b2 x2 y2 i2 v (hT.below hb h0) (Nat.lt_of_lt_of_le h0 hb.size))
  have hO3 := hid (fun (v : World) (hb : Below w.heap.size w v) => of_calls u (by omega) a3 b3 x3 y3 i3 v (hT.below hb h0) (Nat.lt_of_lt_of_le h0 hb.size))
  have hO0 := hid (fun (v : World) (hb : Below w.heap.size w v) => of_calls ⟨#[]⟩ (by decide) a0 b0 x0 y0 i0 v (hT.below hb h0) (Nat.lt_of_lt_of_le h0 hb.size))
  have hO4 := hid (fun (v : World) (hb : Below w.heap.size w v) => of_calls z (by omega) a4 b4 x4 y4 i4 v (hT.below hb h0) (Nat.lt_of_lt_of_le h0 hb.size))
  have haw := hid (fun (v : World) (hb : Below w.heap.size w v) => awake9_calls v (hT.below hb h0) (Nat.lt_of_lt_of_le h0 hb.size))
  have hse : ∀ (p q : Bool) (m n : Int) (v : World), (Op.equalIn 10000 33 (.agg #[.bool p, .bool q, .int .i64 m, .int .i64 n]) (.agg #[.bool p, .bool q, .int .i64 m, .int .i64 n])).run Tryd.prog v = .ok true v := fun p q m n v => by rw [eqPt]; simp
  clear hT hs ht hu i1 i2 i3 i4 i5 i6 i0 hrz hzz hr hz hs1 ht1 hu1
  go_enter Tryd.func6, Tryd.ntmps6
  go_wp2_with fail
  refine Calls.mono (hO1.out _ (Below.refl _ _)) ?_
  rintro e w1 ⟨rfl, q1⟩
  have B1 := hid q1
  clear q1
  go_wp2_with fail
  refine Calls.mono (hO2.out _ B1.out) ?_
  rintro e w2 ⟨rfl, q2⟩
  have B2 := hid (B1.out.trans (q2.mono B1.out.size))
  clear q2 B1
  go_wp2_with fail
  refine Calls.mono (hO3.out _ B2.out) ?_
  rintro e w3 ⟨rfl, q3⟩
  have B3 := hid (B2.out.trans (q3.mono B2.out.size))
  clear q3 B2 hO1 hO2 hO3
  go_wp2_with fail
  obtain ⟨W0, hW0⟩ : ∃ W, ((w3.alloc (.cells #[.bool a1, .bool b1, .int .i64 x1, .int .i64 y1] 33)).alloc (.cells #[.bool a2, .bool b2, .int .i64 x2, .int .i64 y2] 33)).alloc (.cells #[.bool a3, .bool b3, .int .i64 x3, .int .i64 y3] 33) = W := ⟨_, rfl⟩
  have k1 : At W0 w3.heap.size #[.bool a1, .bool b1, .int .i64 x1, .int .i64 y1] 33 := by rw [← hW0]; exact ((At.new w3 _ _).alloc _).alloc _
  have k2 : At W0 (w3.heap.size + 1) #[.bool a2, .bool b2, .int .i64 x2, .int .i64 y2] 33 := by
    rw [← hW0]
    have h := (At.new (w3.alloc (.cells #[.bool a1, .bool b1, .int .i64 x1, .int .i64 y1] 33)) #[.bool a2, .bool b2, .int .i64 x2, .int .i64 y2] 33).alloc (.cells #[.bool a3, .bool b3, .int .i64 x3, .int .i64 y3] 33)
    simpa using h
  have k3 : At W0 (w3.heap.size + 1 + 1) #[.bool a3, .bool b3, .int .i64 x3, .int .i64 y3] 33 := by
    rw [← hW0]
    have h := At.new ((w3.alloc (.cells #[.bool a1, .bool b1, .int .i64 x1, .int .i64 y1] 33)).alloc (.cells #[.bool a2, .bool b2, .int .i64 x2, .int .i64 y2] 33)) #[.bool a3, .bool b3, .int .i64 x3, .int .i64 y3] 33
    simpa using h
  have kB : Below w.heap.size w W0 := by rw [← hW0]; exact B3.out.trans (Below.mono (show Below w3.heap.size w3 (((w3.alloc (.cells #[.bool a1, .bool b1, .int .i64 x1, .int .i64 y1] 33)).alloc (.cells #[.bool a2, .bool b2, .int .i64 x2, .int .i64 y2] 33)).alloc (.cells #[.bool a3, .bool b3, .int .i64 x3, .int .i64 y3] 33)) by repeat (first | with_reducible exact Below.refl _ _ | with_reducible refine Below.setCell ?_ (by first | (simp; done) | (simp; omega)) _ | with_reducible refine below_drewN ?_ _ | with_reducible refine Below.alloc ?_ (by first | (simp; done) | (simp; omega)) _ | with_reducible refine Below.drew ?_)) B3.out.size)
  rw [hW0]
  obtain ⟨n1, hn1⟩ : ∃ n, w3.heap.size = n := ⟨_, rfl⟩
  obtain ⟨n2, hn2⟩ : ∃ n, w3.heap.size + 1 = n := ⟨_, rfl⟩
  obtain ⟨n3, hn3⟩ : ∃ n, w3.heap.size + 1 + 1 = n := ⟨_, rfl⟩
  rw [hn3, hn2, hn1]
  rw [hn1] at k1
  rw [hn2] at k2
  rw [hn3] at k3
  have hS0 := hid (show GrL w [(n1, #[.bool a1, .bool b1, .int .i64 x1, .int .i64 y1]), (n2, #[.bool a2, .bool b2, .int .i64 x2, .int .i64 y2]), (n3, #[.bool a3, .bool b3, .int .i64 x3, .int .i64 y3])] W0 from ⟨fun x hx => by
    simp only [List.mem_cons, List.not_mem_nil, or_false] at hx
    rcases hx with rfl | rfl | rfl
    · exact k1
    · exact k2
    · exact k3, kB⟩)
  clear k1 k2 k3 kB hW0 hn1 hn2 hn3 B3
  go_cut [10] from 19 to 23 (fun p wx => ∃ m, p = .pointer (some ⟨m, 0, none⟩) ∧ At wx m #[.bool a4, .bool b4, .int .i64 x4, .int .i64 y4] 33 ∧ GrL w [(n1, #[.bool a1, .bool b1, .int .i64 x1, .int .i64 y1]), (n2, #[.bool a2, .bool b2, .int .i64 x2, .int .i64 y2]), (n3, #[.bool a3, .bool b3, .int .i64 x3, .int .i64 y3])] wx)
  case first => as_aux_lemma =>
    rename_i Jm Km hJm hKm
    refine wp_region_held_only (S := fun W' => GrL w [(n1, #[.bool a1, .bool b1, .int .i64 x1, .int .i64 y1]), (n2, #[.bool a2, .bool b2, .int .i64 x2, .int .i64 y2]), (n3, #[.bool a3, .bool b3, .int .i64 x3, .int .i64 y3])] W') (by kernel_rfl) (keptG hS0.out (Below.refl _ _).drew) (fun hHeld => ?_)
    (refine wpAnyH_take (i := 0) (v := .agg [.bool a1, .bool b1, .int .i64 x1, .int .i64 y1].toArray) rfl (by kernel_rfl) (by kernel_rfl) (by kernel_rfl) (fun _ _ _ h => h) (yieldsIf_load_mid (by rfl) 33 _ rfl (n1) 0 rfl [.bool a1, .bool b1, .int .i64 x1, .int .i64 y1] _ (fun wq hq => (hq.1 (n1, #[.bool a1, .bool b1, .int .i64 x1, .int .i64 y1]) (by simp)).range rfl) Tryd.underlying33 rfl sizePt) (by assumption) ?_; simp only [Act.put, List.getElem_toArray, List.getElem_cons_zero, List.setIfInBounds_toArray, List.set_cons_zero, List.set_cons_succ])
    (refine wpAnyH_take (i := 1) (v := .agg [.bool a2, .bool b2, .int .i64 x2, .int .i64 y2].toArray) rfl (by kernel_rfl) (by kernel_rfl) (by kernel_rfl) (fun _ _ _ h => h) (yieldsIf_load_mid (by rfl) 33 _ rfl (n2) 0 rfl [.bool a2, .bool b2, .int .i64 x2, .int .i64 y2] _ (fun wq hq => (hq.1 (n2, #[.bool a2, .bool b2, .int .i64 x2, .int .i64 y2]) (by simp)).range rfl) Tryd.underlying33 rfl sizePt) (by assumption) ?_; simp only [Act.put, List.getElem_toArray, List.getElem_cons_zero, List.getElem_cons_succ, List.setIfInBounds_toArray, List.set_cons_zero, List.set_cons_succ])
    (refine wpAnyH_take (i := 3) (v := .agg [.bool a3, .bool b3, .int .i64 x3, .int .i64 y3].toArray) rfl (by kernel_rfl) (by kernel_rfl) (by kernel_rfl) (fun _ _ _ h => h) (yieldsIf_load_mid (by rfl) 33 _ rfl (n3) 0 rfl [.bool a3, .bool b3, .int .i64 x3, .int .i64 y3] _ (fun wq hq => (hq.1 (n3, #[.bool a3, .bool b3, .int .i64 x3, .int .i64 y3]) (by simp)).range rfl) Tryd.underlying33 rfl sizePt) (by assumption) ?_; simp only [Act.put, List.getElem_toArray, List.getElem_cons_zero, List.getElem_cons_succ, List.setIfInBounds_toArray, List.set_cons_zero, List.set_cons_succ])
    obtain ⟨v0, hv0⟩ : ∃ v, World.drew W0 = v := ⟨_, rfl⟩
    rw [hv0] at hHeld ⊢
    clear hv0
    have h0 := hHeld
    clear hHeld
    refine wpAnyH_ready (rs := [2, 5]) (by kernel_rfl) (by simp) ?_
    refine AllReadyH.cons rfl (fun K hK => ?_) ?_
    · rw [if_pos (by rfl)]
      go_simp
      refine (hj12.out _).mono ?_
      rintro e v1 ⟨rfl, q1⟩
      have h1 := keptG (h0) (q1)
      refine hK.out _ _ h1 (fun _ => ?_)
      clear hK K
      refine wpAnyH_ready (rs := [4, 5]) (by kernel_rfl) (by simp) ?_
      refine AllReadyH.cons rfl (fun K hK => ?_) ?_
      · rw [if_pos (by rfl)]
        go_simp
        refine (hj12_3.out _).mono ?_
        rintro e v2 ⟨rfl, q2⟩
        have h2 := keptG (h1) (q2)
        refine hK.out _ _ h2 (fun _ => ?_)
        clear hK K
        refine wpAnyH_ready (rs := [5]) (by kernel_rfl) (by simp) ?_
        refine AllReadyH.cons rfl (fun K hK => ?_) ?_
        · go_simp
          obtain ⟨v3, e3⟩ : ∃ v, World.alloc v2 (.cells #[.bool false, .bool false, .int .i64 0, .int .i64 0] 33) = v := ⟨_, rfl⟩
          have q3 : Below v2.heap.size v2 v3 := by rw [← e3]; exact (Below.refl _ _).alloc (Nat.le_refl _) _
          have hp : At v3 v2.heap.size #[.bool false, .bool false, .int .i64 0, .int .i64 0] 33 := by rw [← e3]; exact At.new v2 _ _
          have hlo := hid (lo_of h2)
          rw [e3]
          obtain ⟨p, ep⟩ : ∃ p, v2.heap.size = p := ⟨_, rfl⟩
          rw [ep] at hp hlo ⊢
          have h3 := keptG (h2) (q3)
          clear ep e3
          refine hK.out _ _ h3 (fun _ => ?_)
          clear hK K
          obtain ⟨⟨k0, k1, k2, k3⟩, f0, f1, f2, f3⟩ := At.facts9 hp
          have fin := hid (fin_put (y0 := .bool a4) (y1 := .bool b4) (y2 := .int .i64 x4) (y3 := .int .i64 y4) hp h3 hlo)
          refine wpAnyH_ready (rs := [6]) (by kernel_rfl) (by simp) ?_
          refine AllReadyH.cons rfl (fun K hK => ?_) ?_
          · go_simp
            refine hK.out _ _ fin.out.2 (fun _ => ?_)
            clear hK K
            refine wpAnyH_done (by kernel_rfl) ?_ _
            refine hKm _ _ ?_
            refine hJm _ _ ?_
            exact ⟨_, _, _, _, _, _, ⟨_, rfl, fin.out.1, fin.out.2⟩, rfl⟩
          exact AllReadyH.nil
        exact AllReadyH.nil
      refine AllReadyH.cons rfl (fun K hK => ?_) ?_
      · go_simp
        obtain ⟨v2, e2⟩ : ∃ v, World.alloc v1 (.cells #[.bool false, .bool false, .int .i64 0, .int .i64 0] 33) = v := ⟨_, rfl⟩
        have q2 : Below v1.heap.size v1 v2 := by rw [← e2]; exact (Below.refl _ _).alloc (Nat.le_refl _) _
        have hp : At v2 v1.heap.size #[.bool false, .bool false, .int .i64 0, .int .i64 0] 33 := by rw [← e2]; exact At.new v1 _ _
        have hlo := hid (lo_of h1)
        rw [e2]
        obtain ⟨p, ep⟩ : ∃ p, v1.heap.size = p := ⟨_, rfl⟩
        rw [ep] at hp hlo ⊢
        have h2 := keptG (h1) (q2)
        clear ep e2
        refine hK.out _ _ h2 (fun _ => ?_)
        clear hK K
        refine wpAnyH_ready (rs := [4]) (by kernel_rfl) (by simp) ?_
        refine AllReadyH.cons rfl (fun K hK => ?_) ?_
        · rw [if_pos (by rfl)]
          go_simp
          refine (hj12_3.out _).mono ?_
          rintro e v3 ⟨rfl, q3⟩
          have h3 := keptG (h2) (q3)
          replace hp := At.keptAll hp q3
          refine hK.out _ _ h3 (fun _ => ?_)
          clear hK K
          obtain ⟨⟨k0, k1, k2, k3⟩, f0, f1, f2, f3⟩ := At.facts9 hp
          have fin := hid (fin_put (y0 := .bool a4) (y1 := .bool b4) (y2 := .int .i64 x4) (y3 := .int .i64 y4) hp h3 hlo)
          refine wpAnyH_ready (rs := [6]) (by kernel_rfl) (by simp) ?_
          refine AllReadyH.cons rfl (fun K hK => ?_) ?_
          · go_simp
            refine hK.out _ _ fin.out.2 (fun _ => ?_)
            clear hK K
            refine wpAnyH_done (by kernel_rfl) ?_ _
            refine hKm _ _ ?_
            refine hJm _ _ ?_
            exact ⟨_, _, _, _, _, _, ⟨_, rfl, fin.out.1, fin.out.2⟩, rfl⟩
          exact AllReadyH.nil
        exact AllReadyH.nil
      exact AllReadyH.nil
    refine AllReadyH.cons rfl (fun K hK => ?_) ?_
    · go_simp
      obtain ⟨v1, e1⟩ : ∃ v, World.alloc v0 (.cells #[.bool false, .bool false, .int .i64 0, .int .i64 0] 33) = v := ⟨_, rfl⟩
      have q1 : Below v0.heap.size v0 v1 := by rw [← e1]; exact (Below.refl _ _).alloc (Nat.le_refl _) _
      have hp : At v1 v0.heap.size #[.bool false, .bool false, .int .i64 0, .int .i64 0] 33 := by rw [← e1]; exact At.new v0 _ _
      have hlo := hid (lo_of h0)
      rw [e1]
      obtain ⟨p, ep⟩ : ∃ p, v0.heap.size = p := ⟨_, rfl⟩
      rw [ep] at hp hlo ⊢
      have h1 := keptG (h0) (q1)
      clear ep e1
      refine hK.out _ _ h1 (fun _ => ?_)
      clear hK K
      refine wpAnyH_ready (rs := [2]) (by kernel_rfl) (by simp) ?_
      refine AllReadyH.cons rfl (fun K hK => ?_) ?_
      · rw [if_pos (by rfl)]
        go_simp
        refine (hj12.out _).mono ?_
        rintro e v2 ⟨rfl, q2⟩
        have h2 := keptG (h1) (q2)
        replace hp := At.keptAll hp q2
        refine hK.out _ _ h2 (fun _ => ?_)
        clear hK K
        refine wpAnyH_ready (rs := [4]) (by kernel_rfl) (by simp) ?_
        refine AllReadyH.cons rfl (fun K hK => ?_) ?_
        · rw [if_pos (by rfl)]
          go_simp
          refine (hj12_3.out _).mono ?_
          rintro e v3 ⟨rfl, q3⟩
          have h3 := keptG (h2) (q3)
          replace hp := At.keptAll hp q3
          refine hK.out _ _ h3 (fun _ => ?_)
          clear hK K
          obtain ⟨⟨k0, k1, k2, k3⟩, f0, f1, f2, f3⟩ := At.facts9 hp
          have fin := hid (fin_put (y0 := .bool a4) (y1 := .bool b4) (y2 := .int .i64 x4) (y3 := .int .i64 y4) hp h3 hlo)
          refine wpAnyH_ready (rs := [6]) (by kernel_rfl) (by simp) ?_
          refine AllReadyH.cons rfl (fun K hK => ?_) ?_
          · go_simp
            refine hK.out _ _ fin.out.2 (fun _ => ?_)
            clear hK K
            refine wpAnyH_done (by kernel_rfl) ?_ _
            refine hKm _ _ ?_
            refine hJm _ _ ?_
            exact ⟨_, _, _, _, _, _, ⟨_, rfl, fin.out.1, fin.out.2⟩, rfl⟩
          exact AllReadyH.nil
        exact AllReadyH.nil
      exact AllReadyH.nil
    exact AllReadyH.nil
  case rest => as_aux_lemma =>
    obtain ⟨n4, rfl, hm4, hS3⟩ := hcut
    have hS0' := hid (pushG hS3 hm4)
    clear hS0 hS3 hm4
    have hS0 := hS0'
    clear hS0'
    go_wp2_with fail
    go_cut [11] from 24 to 28 (fun p wx => ∃ m, p = .pointer (some ⟨m, 0, none⟩) ∧ At wx m #[.bool a4, .bool b4, .int .i64 x4, .int .i64 y4] 33 ∧ GrL w [(n1, #[.bool a1, .bool b1, .int .i64 x1, .int .i64 y1]), (n2, #[.bool a2, .bool b2, .int .i64 x2, .int .i64 y2]), (n3, #[.bool a3, .bool b3, .int .i64 x3, .int .i64 y3]), (n4, #[.bool a4, .bool b4, .int .i64 x4, .int .i64 y4])] wx)
    case first => as_aux_lemma =>
      rename_i Jm Km hJm hKm
      refine wp_region_held_only (S := fun W' => GrL w [(n1, #[.bool a1, .bool b1, .int .i64 x1, .int .i64 y1]), (n2, #[.bool a2, .bool b2, .int .i64 x2, .int .i64 y2]), (n3, #[.bool a3, .bool b3, .int .i64 x3, .int .i64 y3]), (n4, #[.bool a4, .bool b4, .int .i64 x4, .int .i64 y4])] W') (by kernel_rfl) (keptG hS0.out (Below.refl _ _).drew) (fun hHeld => ?_)
      (refine wpAnyH_take (i := 0) (v := .agg [.bool a1, .bool b1, .int .i64 x1, .int .i64 y1].toArray) rfl (by kernel_rfl) (by kernel_rfl) (by kernel_rfl) (fun _ _ _ h => h) (yieldsIf_load_mid (by rfl) 33 _ rfl (n1) 0 rfl [.bool a1, .bool b1, .int .i64 x1, .int .i64 y1] _ (fun wq hq => (hq.1 (n1, #[.bool a1, .bool b1, .int .i64 x1, .int .i64 y1]) (by simp)).range rfl) Tryd.underlying33 rfl sizePt) (by assumption) ?_; simp only [Act.put, List.getElem_toArray, List.getElem_cons_zero, List.setIfInBounds_toArray, List.set_cons_zero, List.set_cons_succ])
      (refine wpAnyH_take (i := 1) (v := .agg [.bool a2, .bool b2, .int .i64 x2, .int .i64 y2].toArray) rfl (by kernel_rfl) (by kernel_rfl) (by kernel_rfl) (fun _ _ _ h => h) (yieldsIf_load_mid (by rfl) 33 _ rfl (n2) 0 rfl [.bool a2, .bool b2, .int .i64 x2, .int .i64 y2] _ (fun wq hq => (hq.1 (n2, #[.bool a2, .bool b2, .int .i64 x2, .int .i64 y2]) (by simp)).range rfl) Tryd.underlying33 rfl sizePt) (by assumption) ?_; simp only [Act.put, List.getElem_toArray, List.getElem_cons_zero, List.getElem_cons_succ, List.setIfInBounds_toArray, List.set_cons_zero, List.set_cons_succ])
      (refine wpAnyH_take (i := 2) (v := .agg [.bool a3, .bool b3, .int .i64 x3, .int .i64 y3].toArray) rfl (by kernel_rfl) (by kernel_rfl) (by kernel_rfl) (fun _ _ _ h => h) (yieldsIf_load_mid (by rfl) 33 _ rfl (n3) 0 rfl [.bool a3, .bool b3, .int .i64 x3, .int .i64 y3] _ (fun wq hq => (hq.1 (n3, #[.bool a3, .bool b3, .int .i64 x3, .int .i64 y3]) (by simp)).range rfl) Tryd.underlying33 rfl sizePt) (by assumption) ?_; simp only [Act.put, List.getElem_toArray, List.getElem_cons_zero, List.getElem_cons_succ, List.setIfInBounds_toArray, List.set_cons_zero, List.set_cons_succ])
      obtain ⟨v0, hv0⟩ : ∃ v, World.drew wc = v := ⟨_, rfl⟩
      rw [hv0] at hHeld ⊢
      clear hv0
      have h0 := hHeld
      clear hHeld
      refine wpAnyH_ready (rs := [3, 5]) (by kernel_rfl) (by simp) ?_
      refine AllReadyH.cons rfl (fun K hK => ?_) ?_
      · rw [if_pos (by rfl)]
        go_simp
        refine (hj23.out _).mono ?_
        rintro e v1 ⟨rfl, q1⟩
        have h1 := keptG (h0) (q1)
        refine hK.out _ _ h1 (fun _ => ?_)
        clear hK K
        refine wpAnyH_ready (rs := [4, 5]) (by kernel_rfl) (by simp) ?_
        refine AllReadyH.cons rfl (fun K hK => ?_) ?_
        · rw [if_pos (by rfl)]
          go_simp
          refine (hj1_23.out _).mono ?_
          rintro e v2 ⟨rfl, q2⟩
          have h2 := keptG (h1) (q2)
          refine hK.out _ _ h2 (fun _ => ?_)
          clear hK K
          refine wpAnyH_ready (rs := [5]) (by kernel_rfl) (by simp) ?_
          refine AllReadyH.cons rfl (fun K hK => ?_) ?_
          · go_simp
            obtain ⟨v3, e3⟩ : ∃ v, World.alloc v2 (.cells #[.bool false, .bool false, .int .i64 0, .int .i64 0] 33) = v := ⟨_, rfl⟩
            have q3 : Below v2.heap.size v2 v3 := by rw [← e3]; exact (Below.refl _ _).alloc (Nat.le_refl _) _
            have hp : At v3 v2.heap.size #[.bool false, .bool false, .int .i64 0, .int .i64 0] 33 := by rw [← e3]; exact At.new v2 _ _
            have hlo := hid (lo_of h2)
            rw [e3]
            obtain ⟨p, ep⟩ : ∃ p, v2.heap.size = p := ⟨_, rfl⟩
            rw [ep] at hp hlo ⊢
            have h3 := keptG (h2) (q3)
            clear ep e3
            refine hK.out _ _ h3 (fun _ => ?_)
            clear hK K
            obtain ⟨⟨k0, k1, k2, k3⟩, f0, f1, f2, f3⟩ := At.facts9 hp
            have fin := hid (fin_put (y0 := .bool a4) (y1 := .bool b4) (y2 := .int .i64 x4) (y3 := .int .i64 y4) hp h3 hlo)
            refine wpAnyH_ready (rs := [6]) (by kernel_rfl) (by simp) ?_
            refine AllReadyH.cons rfl (fun K hK => ?_) ?_
            · go_simp
              refine hK.out _ _ fin.out.2 (fun _ => ?_)
              clear hK K
              refine wpAnyH_done (by kernel_rfl) ?_ _
              refine hKm _ _ ?_
              refine hJm _ _ ?_
              exact ⟨_, _, _, _, _, _, ⟨_, rfl, fin.out.1, fin.out.2⟩, rfl⟩
            exact AllReadyH.nil
          exact AllReadyH.nil
        refine AllReadyH.cons rfl (fun K hK => ?_) ?_
        · go_simp
          obtain ⟨v2, e2⟩ : ∃ v, World.alloc v1 (.cells #[.bool false, .bool false, .int .i64 0, .int .i64 0] 33) = v := ⟨_, rfl⟩
          have q2 : Below v1.heap.size v1 v2 := by rw [← e2]; exact (Below.refl _ _).alloc (Nat.le_refl _) _
          have hp : At v2 v1.heap.size #[.bool false, .bool false, .int .i64 0, .int .i64 0] 33 := by rw [← e2]; exact At.new v1 _ _
          have hlo := hid (lo_of h1)
          rw [e2]
          obtain ⟨p, ep⟩ : ∃ p, v1.heap.size = p := ⟨_, rfl⟩
          rw [ep] at hp hlo ⊢
          have h2 := keptG (h1) (q2)
          clear ep e2
          refine hK.out _ _ h2 (fun _ => ?_)
          clear hK K
          refine wpAnyH_ready (rs := [4]) (by kernel_rfl) (by simp) ?_
          refine AllReadyH.cons rfl (fun K hK => ?_) ?_
          · rw [if_pos (by rfl)]
            go_simp
            refine (hj1_23.out _).mono ?_
            rintro e v3 ⟨rfl, q3⟩
            have h3 := keptG (h2) (q3)
            replace hp := At.keptAll hp q3
            refine hK.out _ _ h3 (fun _ => ?_)
            clear hK K
            obtain ⟨⟨k0, k1, k2, k3⟩, f0, f1, f2, f3⟩ := At.facts9 hp
            have fin := hid (fin_put (y0 := .bool a4) (y1 := .bool b4) (y2 := .int .i64 x4) (y3 := .int .i64 y4) hp h3 hlo)
            refine wpAnyH_ready (rs := [6]) (by kernel_rfl) (by simp) ?_
            refine AllReadyH.cons rfl (fun K hK => ?_) ?_
            · go_simp
              refine hK.out _ _ fin.out.2 (fun _ => ?_)
              clear hK K
              refine wpAnyH_done (by kernel_rfl) ?_ _
              refine hKm _ _ ?_
              refine hJm _ _ ?_
              exact ⟨_, _, _, _, _, _, ⟨_, rfl, fin.out.1, fin.out.2⟩, rfl⟩
            exact AllReadyH.nil
          exact AllReadyH.nil
        exact AllReadyH.nil
      refine AllReadyH.cons rfl (fun K hK => ?_) ?_
      · go_simp
        obtain ⟨v1, e1⟩ : ∃ v, World.alloc v0 (.cells #[.bool false, .bool false, .int .i64 0, .int .i64 0] 33) = v := ⟨_, rfl⟩
        have q1 : Below v0.heap.size v0 v1 := by rw [← e1]; exact (Below.refl _ _).alloc (Nat.le_refl _) _
        have hp : At v1 v0.heap.size #[.bool false, .bool false, .int .i64 0, .int .i64 0] 33 := by rw [← e1]; exact At.new v0 _ _
        have hlo := hid (lo_of h0)
        rw [e1]
        obtain ⟨p, ep⟩ : ∃ p, v0.heap.size = p := ⟨_, rfl⟩
        rw [ep] at hp hlo ⊢
        have h1 := keptG (h0) (q1)
        clear ep e1
        refine hK.out _ _ h1 (fun _ => ?_)
        clear hK K
        refine wpAnyH_ready (rs := [3]) (by kernel_rfl) (by simp) ?_
        refine AllReadyH.cons rfl (fun K hK => ?_) ?_
        · rw [if_pos (by rfl)]
          go_simp
          refine (hj23.out _).mono ?_
          rintro e v2 ⟨rfl, q2⟩
          have h2 := keptG (h1) (q2)
          replace hp := At.keptAll hp q2
          refine hK.out _ _ h2 (fun _ => ?_)
          clear hK K
          refine wpAnyH_ready (rs := [4]) (by kernel_rfl) (by simp) ?_
          refine AllReadyH.cons rfl (fun K hK => ?_) ?_
          · rw [if_pos (by rfl)]
            go_simp
            refine (hj1_23.out _).mono ?_
            rintro e v3 ⟨rfl, q3⟩
            have h3 := keptG (h2) (q3)
            replace hp := At.keptAll hp q3
            refine hK.out _ _ h3 (fun _ => ?_)
            clear hK K
            obtain ⟨⟨k0, k1, k2, k3⟩, f0, f1, f2, f3⟩ := At.facts9 hp
            have fin := hid (fin_put (y0 := .bool a4) (y1 := .bool b4) (y2 := .int .i64 x4) (y3 := .int .i64 y4) hp h3 hlo)
            refine wpAnyH_ready (rs := [6]) (by kernel_rfl) (by simp) ?_
            refine AllReadyH.cons rfl (fun K hK => ?_) ?_
            · go_simp
              refine hK.out _ _ fin.out.2 (fun _ => ?_)
              clear hK K
              refine wpAnyH_done (by kernel_rfl) ?_ _
              refine hKm _ _ ?_
              refine hJm _ _ ?_
              exact ⟨_, _, _, _, _, _, ⟨_, rfl, fin.out.1, fin.out.2⟩, rfl⟩
            exact AllReadyH.nil
          exact AllReadyH.nil
        exact AllReadyH.nil
      exact AllReadyH.nil
    case rest => as_aux_lemma =>
      obtain ⟨n5, rfl, hm5, hS4⟩ := hcut
      have hS0' := hid (pushG hS4 hm5)
      clear hS0 hS4 hm5
      go_wp2_with fail
      refine Calls.mono (hO0.out _ hS0'.out.2) ?_
      rintro e wa ⟨rfl, qa⟩
      have hSa := keptG hS0'.out qa
      have m6 := At.new wa #[.bool a0, .bool b0, .int .i64 x0, .int .i64 y0] 33
      have hSb := hid (pushG (keptG hSa ((Below.refl _ _).alloc (Nat.le_refl _) (.cells #[.bool a0, .bool b0, .int .i64 x0, .int .i64 y0] 33))) m6)
      clear hS0' qa hSa m6 hO0
      go_wp2_with fail
      obtain ⟨n6, hn6⟩ : ∃ n, wa.heap.size = n := ⟨_, rfl⟩
      obtain ⟨Wb, hWb⟩ : ∃ W, wa.alloc (.cells #[.bool a0, .bool b0, .int .i64 x0, .int .i64 y0] 33) = W := ⟨_, rfl⟩
      rw [hn6, hWb] at hSb ⊢
      clear hn6 hWb
      have hSc := hid (show GrL w [(n1, #[.bool a1, .bool b1, .int .i64 x1, .int .i64 y1]), (n2, #[.bool a2, .bool b2, .int .i64 x2, .int .i64 y2]), (n3, #[.bool a3, .bool b3, .int .i64 x3, .int .i64 y3]), (n4, #[.bool a4, .bool b4, .int .i64 x4, .int .i64 y4]), (n5, #[.bool a4, .bool b4, .int .i64 x4, .int .i64 y4]), (n6, #[.bool a0, .bool b0, .int .i64 x0, .int .i64 y0])] Wb from hSb.out)
      clear hSb
      refine wp_region_quiet (C := (fun w' => GrL w [(n1, #[.bool a1, .bool b1, .int .i64 x1, .int .i64 y1]), (n2, #[.bool a2, .bool b2, .int .i64 x2, .int .i64 y2]), (n3, #[.bool a3, .bool b3, .int .i64 x3, .int .i64 y3]), (n4, #[.bool a4, .bool b4, .int .i64 x4, .int .i64 y4]), (n5, #[.bool a4, .bool b4, .int .i64 x4, .int .i64 y4]), (n6, #[.bool a0, .bool b0, .int .i64 x0, .int .i64 y0])] w')) (by kernel_rfl) (by kernel_rfl) (keptG hSc.out (Below.refl _ _).drew) ?_
      dsimp only
      repeat (first
        | (refine wpQuiet_skip (by rfl) ?_; simp only [Act.put, List.setIfInBounds_toArray, List.set_cons_zero, List.set_cons_succ])
        | (refine wpQuiet_load 33 _ (n1) (0) [.bool a1, .bool b1, .int .i64 x1, .int .i64 y1] _ (fun wq hq => (hq.1 (n1, #[.bool a1, .bool b1, .int .i64 x1, .int .i64 y1]) (by simp)).range rfl) Tryd.underlying33 sizePt rfl rfl rfl (by rfl) ?_; simp only [Act.put, List.setIfInBounds_toArray, List.set_cons_zero, List.set_cons_succ])
        | (refine wpQuiet_load 33 _ (n4) (0) [.bool a4, .bool b4, .int .i64 x4, .int .i64 y4] _ (fun wq hq => (hq.1 (n4, #[.bool a4, .bool b4, .int .i64 x4, .int .i64 y4]) (by simp)).range rfl) Tryd.underlying33 sizePt rfl rfl rfl (by rfl) ?_; simp only [Act.put, List.setIfInBounds_toArray, List.set_cons_zero, List.set_cons_succ])
        | (refine wpQuiet_load 33 _ (n5) (0) [.bool a4, .bool b4, .int .i64 x4, .int .i64 y4] _ (fun wq hq => (hq.1 (n5, #[.bool a4, .bool b4, .int .i64 x4, .int .i64 y4]) (by simp)).range rfl) Tryd.underlying33 sizePt rfl rfl rfl (by rfl) ?_; simp only [Act.put, List.setIfInBounds_toArray, List.set_cons_zero, List.set_cons_succ])
        | (refine wpQuiet_load 33 _ (n6) (0) [.bool a0, .bool b0, .int .i64 x0, .int .i64 y0] _ (fun wq hq => (hq.1 (n6, #[.bool a0, .bool b0, .int .i64 x0, .int .i64 y0]) (by simp)).range rfl) Tryd.underlying33 sizePt rfl rfl rfl (by rfl) ?_; simp only [Act.put, List.setIfInBounds_toArray, List.set_cons_zero, List.set_cons_succ])
        | (refine' wpQuiet_take (by rfl) ?_ ?_
           rotate_left
           · (intro wq hq; (try dsimp only at hq); go_simp
              first
                | done
                | with_reducible rfl
                | (go_at_call 11; have hzz := hO4.out wq hq.2; with_reducible refine hzz.mono ?_; clear hzz; rintro e wz ⟨rfl, hb⟩; exact ⟨rfl, keptG hq hb⟩)
                | (go_at_call 13; have hzz := hf4.out wq; with_reducible refine hzz.mono ?_; clear hzz; rintro e wz ⟨rfl, hb⟩; exact ⟨rfl, keptG hq hb⟩)
                | (go_at_call 16; have hzz := hj10.out wq; with_reducible refine hzz.mono ?_; clear hzz; rintro e wz ⟨rfl, hb⟩; exact ⟨rfl, keptG hq hb⟩)
                | (go_at_call 16; have hzz := hj01.out wq; with_reducible refine hzz.mono ?_; clear hzz; rintro e wz ⟨rfl, hb⟩; exact ⟨rfl, keptG hq hb⟩)
                | (go_at_call 15; have hzz := haw.out wq hq.2; with_reducible refine hzz.mono ?_; clear hzz; rintro e wz ⟨rfl, hb⟩; exact ⟨rfl, keptG hq hb⟩)
             )
           simp only [Act.put, List.setIfInBounds_toArray, List.set_cons_zero, List.set_cons_succ]))
      refine wpQuiet_nil ?_
      intro wy hy
      have hy' := hid hy
      clear hy hSc
      go_wp2
      go_ret
      exact ⟨rfl, hy'.out.2⟩
end Go.Proofs.YtdmmofdlokgfmaaDoor
