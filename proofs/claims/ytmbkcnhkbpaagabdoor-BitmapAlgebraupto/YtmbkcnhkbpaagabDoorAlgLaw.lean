/-
  The walk of quarrylaw04.BitmapAlgebra.
-/
import Derived.Test.YtmbkcnhkbpaagabDoorAlgKit
namespace Go.Proofs.YtmbkcnhkbpaagabDoor
open Go.RowKit Go.Shelf

attribute [local go_sem] Oper.semAt_some

set_option maxRecDepth 100000 in
set_option maxHeartbeats 16000000 in
theorem alg_in (n : Int) (ao : Option Addr) (k cap : Nat) (X : Nat → Nat) (hn : (Lit.int .i64 n).wf = true) (hk : k ≤ 1048576) (m : Int) (bo : Option Addr) (l cap' : Nat) (Y : Nat → Nat) (hm : (Lit.int .i64 m).wf = true) (hl : l ≤ 1048576) (hz : bo = none → l = 0 ∧ cap' = 0)
    (w : World) (hT : Tab w) (h0 : 0 < w.heap.size) (hW : Wds w ao k X) (hV : Wds w bo l Y) :
    CallsIn Fence.wide 4 Tryd.prog 4 #[bv n ao k cap, bv m bo l cap'] w fun e w' => e = .returned (.bool true) ∧ Below w.heap.size w w' := by
  have hnf : ∀ (f : Fn) (a b : Array Value) (w : World), Sem.run Tryd.prog (binOp BinOp.eql 37 (.func f a b) .nilFunc) w = .ok (.bool false) w := fun _ _ _ _ => by rfl
  have hX := hid (fun j hj => (hW j hj).1)
  have hY := hid (fun j hj => (hV j hj).1)
  have hW' := hid hW
  have hV' := hid hV
  have hT' := hid hT
  have hn' := hid hn
  have hm' := hid hm
  have hz' := hid hz
  have hk2 : k ≤ 17592186044416 := by omega
  have hl2 : l ≤ 17592186044416 := by omega
  clear hW hT hn hm hV hz
  refine callsIn_of_wp_marks Tryd.func4 rfl trivial ?_ rfl
  simp only [Tryd.ntmps4, List.size_toArray, List.length_cons, List.length_nil, Nat.reduceAdd, Nat.reduceSub, Array.replicate_succ, Array.replicate_zero, List.push_toArray, List.append_toArray, List.nil_append, List.cons_append]
  refine wpIn_wide.2 ?_
  have K0_a := hid (((At.new w #[.int .i64 n, .slice ao k cap] 24).alloc (.cells #[.int .i64 m, .slice bo l cap'] 24)).alloc (.cells #[.bool false] 4))
  have K0_b := hid (show At (((w.alloc (.cells #[.int .i64 n, .slice ao k cap] 24)).alloc (.cells #[.int .i64 m, .slice bo l cap'] 24)).alloc (.cells #[.bool false] 4)) (w.heap.size + 1) #[.int .i64 m, .slice bo l cap'] 24 from by
    have h := (At.new (w.alloc (.cells #[.int .i64 n, .slice ao k cap] 24)) #[.int .i64 m, .slice bo l cap'] 24).alloc (.cells #[.bool false] 4)
    simpa using h)
  have K0_res := hid (show At (((w.alloc (.cells #[.int .i64 n, .slice ao k cap] 24)).alloc (.cells #[.int .i64 m, .slice bo l cap'] 24)).alloc (.cells #[.bool false] 4)) (w.heap.size + 1 + 1) #[.bool false] 4 from by
    have h := At.new ((w.alloc (.cells #[.int .i64 n, .slice ao k cap] 24)).alloc (.cells #[.int .i64 m, .slice bo l cap'] 24)) #[.bool false] 4
    simpa using h)
  have hB0 : Below w.heap.size w (((w.alloc (.cells #[.int .i64 n, .slice ao k cap] 24)).alloc (.cells #[.int .i64 m, .slice bo l cap'] 24)).alloc (.cells #[.bool false] 4)) := by repeat (first | with_reducible exact Below.refl _ _ | with_reducible refine Below.setCell ?_ (by first | (simp; done) | (simp; omega)) _ | with_reducible refine below_drewN ?_ _ | with_reducible refine Below.alloc ?_ (by first | (simp; done) | (simp; omega)) _ | with_reducible refine Below.drew ?_)
  go_wp2_with fail
  have s1_a := hid (K0_a.out).lt
  have s1_b := hid (K0_b.out).lt
  have s1_res := hid (K0_res.out).lt
  refine Calls.mono (awake_calls _ (hT'.out.below hB0 h0) (Nat.lt_of_lt_of_le h0 hB0.size)) ?_
  rintro e w1 ⟨rfl, hb⟩
  have K1_a := hid (At.keptAll (K0_a.out) hb)
  have K1_b := hid (At.keptAll (K0_b.out) hb)
  have K1_res := hid (At.keptAll (K0_res.out) hb)
  have hB1 : Below w.heap.size w w1 := Below.trans hB0 (Below.mono hb hB0.size)
  clear K0_a K0_b K0_res hb hB0
  by_cases hf : formed m l Y
  rotate_left
  · have hf' := hid hf
    clear hf
    obtain ⟨c0_b, c1_b, f0_b, f1_b⟩ := (K1_b.out).facts
    go_wp2_with fail
    have s2_a := hid (K1_a.out).lt
    have s2_b := hid (K1_b.out).lt
    have s2_res := hid (K1_res.out).lt
    refine Calls.mono (not_calls m bo l cap' Y 1 0 0 hm'.out hl2 (.inl ⟨hf'.out, rfl, rfl, rfl⟩) _ (hV'.out.kept hB1)) ?_
    rintro e w2 ⟨hb, so1, hown, rfl⟩
    clear c0_b c1_b f0_b f1_b
    have K2_a := hid (At.keptAll (K1_a.out) hb)
    have K2_b := hid (At.keptAll (K1_b.out) hb)
    have K2_res := hid (At.keptAll (K1_res.out) hb)
    have hB2 : Below w.heap.size w w2 := Below.trans hB1 (Below.mono hb hB1.size)
    clear K1_a K1_b K1_res hb hB1
    clear hown
    have ne_a_n := (K2_a.out).lt
    have ne_b_n := (K2_b.out).lt
    have ne_res_n := (K2_res.out).lt
    have al : Below w2.heap.size w2 (w2.alloc (.cells #[.int .i64 0, .slice so1 0 0] 24)) := (Below.refl _ _).alloc (Nat.le_refl _) _
    have K3_a := hid (At.alloc (K2_a.out) (.cells #[.int .i64 0, .slice so1 0 0] 24))
    have K3_b := hid (At.alloc (K2_b.out) (.cells #[.int .i64 0, .slice so1 0 0] 24))
    have K3_res := hid (At.alloc (K2_res.out) (.cells #[.int .i64 0, .slice so1 0 0] 24))
    have K3_n := hid (At.new w2 #[.int .i64 0, .slice so1 0 0] 24)
    have hB3 := Below.alloc hB2 hB2.size (.cells #[.int .i64 0, .slice so1 0 0] 24)
    clear al K2_a K2_b K2_res hB2
    obtain ⟨c0_b, c1_b, f0_b, f1_b⟩ := (K3_b.out).facts
    obtain ⟨c0_n, c1_n, f0_n, f1_n⟩ := (K3_n.out).facts
    go_wp2_with fail
    have s4_a := hid (K3_a.out).lt
    have s4_b := hid (K3_b.out).lt
    have s4_res := hid (K3_res.out).lt
    have s4_n := hid (K3_n.out).lt
    refine Calls.mono (formed_calls m bo l cap' Y false hm'.out hl2 ⟨fun h => (hf'.out h).elim, fun h => (by cases h)⟩ _ (hV'.out.kept hB3)) ?_
    rintro e w4 ⟨rfl, hb⟩
    clear c0_b c1_b f0_b f1_b c0_n c1_n f0_n f1_n
    have K4_a := hid (At.keptAll (K3_a.out) hb)
    have K4_b := hid (At.keptAll (K3_b.out) hb)
    have K4_res := hid (At.keptAll (K3_res.out) hb)
    have K4_n := hid (At.keptAll (K3_n.out) hb)
    have hB4 : Below w.heap.size w w4 := Below.trans hB3 (Below.mono hb hB3.size)
    clear K3_a K3_b K3_res K3_n hb hB3
    obtain ⟨c0_n, c1_n, f0_n, f1_n⟩ := (K4_n.out).facts
    have cr0 := (K4_res.out).cell 0
    have fr0 := (K4_res.out).frozen 0
    simp only [List.getElem?_toArray, List.getElem?_cons_zero] at cr0
    have hcr := World.cell?_setCell_same' w4 ⟨w.heap.size + 1 + 1, 0, none⟩ (.bool true) (by rw [cr0]; rfl)
    have hBe := hB4.setCell (p := ⟨w.heap.size + 1 + 1, 0, none⟩) (by show w.heap.size ≤ w.heap.size + 1 + 1; omega) (.bool true)
    go_wp2
    refine ⟨.bool true, ?_, rfl, hBe⟩
    simp [results, Tryd.f4, go_sem, hcr]
  · obtain ⟨M, rfl⟩ := Int.eq_ofNat_of_zero_le hf.1
    have hf' := hid hf
    have hlM := hid (show l = need M from by have := hf.2.1; simpa using this)
    have hMl : M ≤ 64 * l := by have := hlM.out; unfold need at this; omega
    have hZf := hid (fun (g : Nat → Bool) => (show formed M l (rowOf g M) from (by rw [hlM.out]; exact rowOf_formed g M)))
    clear hf
    obtain ⟨c0_b, c1_b, f0_b, f1_b⟩ := (K1_b.out).facts
    go_wp2_with fail
    have s2_a := hid (K1_a.out).lt
    have s2_b := hid (K1_b.out).lt
    have s2_res := hid (K1_res.out).lt
    refine Calls.mono (not_calls M bo l cap' Y 0 M l hm'.out hl2 (.inr ⟨hf'.out, rfl, rfl, rfl⟩) _ (hV'.out.kept hB1)) ?_
    rintro e w2 ⟨hb, so1, hown, rfl⟩
    clear c0_b c1_b f0_b f1_b
    have K2_a := hid (At.keptAll (K1_a.out) hb)
    have K2_b := hid (At.keptAll (K1_b.out) hb)
    have K2_res := hid (At.keptAll (K1_res.out) hb)
    have hB2 : Below w.heap.size w w2 := Below.trans hB1 (Below.mono hb hB1.size)
    clear K1_a K1_b K1_res hb hB1
    rw [Int.toNat_natCast] at hown
    have K2_rn := hid hown
    clear hown
    have ne_a_n := (K2_a.out).lt
    have ne_b_n := (K2_b.out).lt
    have ne_res_n := (K2_res.out).lt
    have al : Below w2.heap.size w2 (w2.alloc (.cells #[.int .i64 (M : Int), .slice so1 l l] 24)) := (Below.refl _ _).alloc (Nat.le_refl _) _
    have K3_a := hid (At.alloc (K2_a.out) (.cells #[.int .i64 (M : Int), .slice so1 l l] 24))
    have K3_b := hid (At.alloc (K2_b.out) (.cells #[.int .i64 (M : Int), .slice so1 l l] 24))
    have K3_res := hid (At.alloc (K2_res.out) (.cells #[.int .i64 (M : Int), .slice so1 l l] 24))
    have K3_rn := hid ((K2_rn.out).kept al)
    have K3_n := hid (At.new w2 #[.int .i64 (M : Int), .slice so1 l l] 24)
    have hB3 := Below.alloc hB2 hB2.size (.cells #[.int .i64 (M : Int), .slice so1 l l] 24)
    clear al K2_a K2_b K2_res K2_rn hB2
    obtain ⟨c0_n, c1_n, f0_n, f1_n⟩ := (K3_n.out).facts
    go_wp2_with fail
    have s4_a := hid (K3_a.out).lt
    have s4_b := hid (K3_b.out).lt
    have s4_res := hid (K3_res.out).lt
    have s4_n := hid (K3_n.out).lt
    refine Calls.mono (not_calls M so1 l l (rowOf (fun i => !bitAt Y i) M) 0 M l hm'.out hl2 (.inr ⟨hZf.out _, rfl, rfl, rfl⟩) _ ((K3_rn.out).wds (fun j _ => rowOf_lt _ _ _))) ?_
    rintro e w4 ⟨hb, so2, hown, rfl⟩
    clear c0_n c1_n f0_n f1_n
    have K4_a := hid (At.keptAll (K3_a.out) hb)
    have K4_b := hid (At.keptAll (K3_b.out) hb)
    have K4_res := hid (At.keptAll (K3_res.out) hb)
    have K4_rn := hid ((K3_rn.out).kept hb)
    have K4_n := hid (At.keptAll (K3_n.out) hb)
    have hB4 : Below w.heap.size w w4 := Below.trans hB3 (Below.mono hb hB3.size)
    clear K3_a K3_b K3_res K3_rn K3_n hb hB3
    rw [Int.toNat_natCast] at hown
    replace hown := hown.congr (Z' := Y) (fun j hj => not_not_row hf'.out hj (hY.out j hj))
    have K4_rb := hid hown
    clear hown
    have ne_a_back := (K4_a.out).lt
    have ne_b_back := (K4_b.out).lt
    have ne_res_back := (K4_res.out).lt
    have ne_n_back := (K4_n.out).lt
    have al : Below w4.heap.size w4 (w4.alloc (.cells #[.int .i64 (M : Int), .slice so2 l l] 24)) := (Below.refl _ _).alloc (Nat.le_refl _) _
    have K5_a := hid (At.alloc (K4_a.out) (.cells #[.int .i64 (M : Int), .slice so2 l l] 24))
    have K5_b := hid (At.alloc (K4_b.out) (.cells #[.int .i64 (M : Int), .slice so2 l l] 24))
    have K5_res := hid (At.alloc (K4_res.out) (.cells #[.int .i64 (M : Int), .slice so2 l l] 24))
    have K5_rn := hid ((K4_rn.out).kept al)
    have K5_n := hid (At.alloc (K4_n.out) (.cells #[.int .i64 (M : Int), .slice so2 l l] 24))
    have K5_rb := hid ((K4_rb.out).kept al)
    have K5_back := hid (At.new w4 #[.int .i64 (M : Int), .slice so2 l l] 24)
    have hB5 := Below.alloc hB4 hB4.size (.cells #[.int .i64 (M : Int), .slice so2 l l] 24)
    clear al K4_a K4_b K4_res K4_rn K4_n K4_rb hB4
    obtain ⟨c0_b, c1_b, f0_b, f1_b⟩ := (K5_b.out).facts
    go_wp2_with fail
    have s6_a := hid (K5_a.out).lt
    have s6_b := hid (K5_b.out).lt
    have s6_res := hid (K5_res.out).lt
    have s6_n := hid (K5_n.out).lt
    have s6_back := hid (K5_back.out).lt
    refine Calls.mono (prefixB_calls M bo l cap' Y 0 M l hm'.out hl2 (.inr ⟨hf'.out, rfl, rfl, rfl⟩) _ (hV'.out.kept hB5)) ?_
    rintro e w6 ⟨hb, so3, hown, rfl⟩
    clear c0_b c1_b f0_b f1_b
    have K6_a := hid (At.keptAll (K5_a.out) hb)
    have K6_b := hid (At.keptAll (K5_b.out) hb)
    have K6_res := hid (At.keptAll (K5_res.out) hb)
    have K6_rn := hid ((K5_rn.out).kept hb)
    have K6_n := hid (At.keptAll (K5_n.out) hb)
    have K6_rb := hid ((K5_rb.out).kept hb)
    have K6_back := hid (At.keptAll (K5_back.out) hb)
    have hB6 : Below w.heap.size w w6 := Below.trans hB5 (Below.mono hb hB5.size)
    clear K5_a K5_b K5_res K5_rn K5_n K5_rb K5_back hb hB5
    rw [Int.toNat_natCast] at hown
    have K6_rp := hid hown
    clear hown
    have ne_a_pre := (K6_a.out).lt
    have ne_b_pre := (K6_b.out).lt
    have ne_res_pre := (K6_res.out).lt
    have ne_n_pre := (K6_n.out).lt
    have ne_back_pre := (K6_back.out).lt
    have al : Below w6.heap.size w6 (w6.alloc (.cells #[.int .i64 (M : Int), .slice so3 l l] 24)) := (Below.refl _ _).alloc (Nat.le_refl _) _
    have K7_a := hid (At.alloc (K6_a.out) (.cells #[.int .i64 (M : Int), .slice so3 l l] 24))
    have K7_b := hid (At.alloc (K6_b.out) (.cells #[.int .i64 (M : Int), .slice so3 l l] 24))
    have K7_res := hid (At.alloc (K6_res.out) (.cells #[.int .i64 (M : Int), .slice so3 l l] 24))
    have K7_rn := hid ((K6_rn.out).kept al)
    have K7_n := hid (At.alloc (K6_n.out) (.cells #[.int .i64 (M : Int), .slice so3 l l] 24))
    have K7_rb := hid ((K6_rb.out).kept al)
    have K7_back := hid (At.alloc (K6_back.out) (.cells #[.int .i64 (M : Int), .slice so3 l l] 24))
    have K7_rp := hid ((K6_rp.out).kept al)
    have K7_pre := hid (At.new w6 #[.int .i64 (M : Int), .slice so3 l l] 24)
    have hB7 := Below.alloc hB6 hB6.size (.cells #[.int .i64 (M : Int), .slice so3 l l] 24)
    clear al K6_a K6_b K6_res K6_rn K6_n K6_rb K6_back K6_rp hB6
    have al : Below (w6.alloc (.cells #[.int .i64 (M : Int), .slice so3 l l] 24)).heap.size (w6.alloc (.cells #[.int .i64 (M : Int), .slice so3 l l] 24)) ((w6.alloc (.cells #[.int .i64 (M : Int), .slice so3 l l] 24)).alloc (.cells #[.slice none 0 0] 35)) := below_al _ _
    have K8_a := hid (At.alloc (K7_a.out) (.cells #[.slice none 0 0] 35))
    have K8_b := hid (At.alloc (K7_b.out) (.cells #[.slice none 0 0] 35))
    have K8_res := hid (At.alloc (K7_res.out) (.cells #[.slice none 0 0] 35))
    have K8_rn := hid ((K7_rn.out).kept al)
    have K8_n := hid (At.alloc (K7_n.out) (.cells #[.slice none 0 0] 35))
    have K8_rb := hid ((K7_rb.out).kept al)
    have K8_back := hid (At.alloc (K7_back.out) (.cells #[.slice none 0 0] 35))
    have K8_rp := hid ((K7_rp.out).kept al)
    have K8_pre := hid (At.alloc (K7_pre.out) (.cells #[.slice none 0 0] 35))
    have K8_places := hid (show At ((w6.alloc (.cells #[.int .i64 (M : Int), .slice so3 l l] 24)).alloc (.cells #[.slice none 0 0] 35)) (w6.heap.size + 1) #[.slice none 0 0] 35 from by have h := At.new (w6.alloc (.cells #[.int .i64 (M : Int), .slice so3 l l] 24)) #[.slice none 0 0] 35; simpa using h)
    have hB8 := Below.alloc hB7 hB7.size (.cells #[.slice none 0 0] 35)
    clear al K7_a K7_b K7_res K7_rn K7_n K7_rb K7_back K7_rp K7_pre hB7
    obtain ⟨c0_b, c1_b, f0_b, f1_b⟩ := (K8_b.out).facts
    go_wp2_with fail
    have s9_a := hid (K8_a.out).lt
    have s9_b := hid (K8_b.out).lt
    have s9_res := hid (K8_res.out).lt
    have s9_n := hid (K8_n.out).lt
    have s9_back := hid (K8_back.out).lt
    have s9_pre := hid (K8_pre.out).lt
    have s9_places := hid (K8_places.out).lt
    refine Calls.mono (eachB_calls M bo l cap' Y M hm'.out hl2 hz'.out (.inl ⟨hf'.out, rfl⟩) _ (hV'.out.kept hB8)) ?_
    rintro e w9 ⟨Bl, gs, rfl, hBl, hgs, hsq, hb⟩
    have hgs2 : (w6.heap.size + 1) < gs := Nat.lt_of_lt_of_le (K8_places.out).lt hgs
    clear c0_b c1_b f0_b f1_b
    have K9_a := hid (At.keptAll (K8_a.out) hb)
    have K9_b := hid (At.keptAll (K8_b.out) hb)
    have K9_res := hid (At.keptAll (K8_res.out) hb)
    have K9_rn := hid ((K8_rn.out).kept hb)
    have K9_n := hid (At.keptAll (K8_n.out) hb)
    have K9_rb := hid ((K8_rb.out).kept hb)
    have K9_back := hid (At.keptAll (K8_back.out) hb)
    have K9_rp := hid ((K8_rp.out).kept hb)
    have K9_pre := hid (At.keptAll (K8_pre.out) hb)
    have K9_places := hid (At.keptAll (K8_places.out) hb)
    have hB9 : Below w.heap.size w w9 := Below.trans hB8 (Below.mono hb hB8.size)
    clear K8_a K8_b K8_res K8_rn K8_n K8_rb K8_back K8_rp K8_pre K8_places hb hB8
    have hsq' := hid hsq
    have hgl : gs < w9.heap.size := hsq.lt.2
    have hpl : (w6.heap.size + 1) < w9.heap.size := (K9_places.out).lt
    have hrl : w.heap.size + 1 + 1 < w9.heap.size := (K9_res.out).lt
    have hres : w.heap.size + 1 + 1 < w6.heap.size := ne_res_pre
    clear hBl hgs hsq
    go_wp2_with fail
    rename_i Kz hKr
    have hsz9 := hB9.size
    have rest : ∀ (D : Nat) (W : World), w9.heap.size ≤ D → Hid (KeptX w w9 (w6.heap.size + 1) W) → Hid (GathI W (w6.heap.size + 1) w9.heap.size ((placesB Y M).map (· % 4611686018427387904))) → Hid (W.heap[D]? = some (.deferred (some []))) → Kz { tmps := #[bv n ao k cap, bv (M : Int) bo l cap', .pointer (some ⟨w.heap.size, 0, none⟩), .pointer (some ⟨w.heap.size + 1, 0, none⟩), .pointer (some ⟨w.heap.size + 1 + 1, 0, none⟩), .pointer (some ⟨w2.heap.size, 0, none⟩), .int .i64 0, .pointer (some ⟨w4.heap.size, 0, none⟩), .int .i64 0, .pointer (some ⟨w6.heap.size, 0, none⟩), .int .i64 0, .pointer (some ⟨w6.heap.size + 1, 0, none⟩), seqB Bl, undef, undef, undef, undef, undef, undef, undef, undef, undef, undef, undef, undef, undef, undef, undef, undef, .bool true, .bool false, .tuple #[bv (M : Int) so1 l l, .int .i64 0], .agg #[.int .i64 (M : Int), .slice bo l cap'], .tuple #[bv (M : Int) so1 l l, .int .i64 0], bv (M : Int) so1 l l, .int .i64 0, .int .i64 0, .bool false, undef, undef, undef, undef, undef, undef, undef, undef, undef, undef, undef, undef, undef, undef, undef, undef, undef, undef, .tuple #[bv (M : Int) so2 l l, .int .i64 0], .agg #[.int .i64 (M : Int), .slice so1 l l], .tuple #[bv (M : Int) so2 l l, .int .i64 0], bv (M : Int) so2 l l, .int .i64 0, .tuple #[bv (M : Int) so3 l l, .int .i64 0], .agg #[.int .i64 (M : Int), .slice bo l cap'], .tuple #[bv (M : Int) so3 l l, .int .i64 0], bv (M : Int) so3 l l, .int .i64 0, .agg #[.int .i64 (M : Int), .slice bo l cap'], seqB Bl, seqB Bl, .bool false, seqB Bl, undef, undef, undef, undef, undef, undef, undef, undef, undef, undef, undef, undef, undef, undef, undef, undef, undef, undef, undef, undef, undef, undef, undef, undef, undef, undef, undef, undef, undef, undef, undef, undef, undef, undef, undef, undef, undef, undef, undef, undef, undef, undef, undef, undef, undef, undef, undef, undef, undef, undef, undef, undef, undef, undef, undef, undef, undef, undef, undef, undef, undef, undef, undef, undef, undef, undef, undef, undef, undef, undef, undef, undef, undef, undef, undef, undef, undef, undef, undef, undef, undef, undef, undef, undef, undef, undef, undef, undef, undef, undef, undef, undef, undef, undef, undef, undef, undef, undef, undef, undef, undef, undef, undef, undef, undef, undef, undef, undef, undef, undef, undef, undef, undef, undef, undef, undef, undef, undef, undef, undef, undef, undef, undef, undef, undef, undef, undef, undef, undef, undef, undef, undef, undef, undef, undef, undef, undef, undef, undef, undef, undef, undef, undef, undef, undef, undef, undef, undef, undef, undef, undef, undef, undef, undef, undef], defers := [{ target := .collected D, args := #[] }] } W := by
      intro D W hD hKX hGv hDef
      refine hKr _ _ ?_
      clear hKr
      have hB9r := hKX.out.1
      have R9_a := hid (hKX.out.at (show w.heap.size ≠ w6.heap.size + 1 by omega) K9_a.out)
      have R9_b := hid (hKX.out.at (show (w.heap.size + 1) ≠ w6.heap.size + 1 by omega) K9_b.out)
      have R9_res := hid (hKX.out.at (show (w.heap.size + 1 + 1) ≠ w6.heap.size + 1 by omega) K9_res.out)
      have R9_n := hid (hKX.out.at (show w2.heap.size ≠ w6.heap.size + 1 by omega) K9_n.out)
      have R9_back := hid (hKX.out.at (show w4.heap.size ≠ w6.heap.size + 1 by omega) K9_back.out)
      have R9_rn := hid (Own.keptX K9_rn.out K9_places.out hKX.out)
      have R9_rb := hid (Own.keptX K9_rb.out K9_places.out hKX.out)
      obtain ⟨po, pc, hpA, hpN⟩ := gathI_nums (fun p hp => by have := (placesB_mem hp).1; omega) hGv.out
      have hpS := hid (placesB_len Y M)
      have hpL : (placesB Y M).length ≤ 17592186044416 := by have h1 := placesB_len Y M; have h2 := cntB_le Y M; omega
      obtain ⟨E4, q4, r4, hE4⟩ := makeE_ex (M : Int) (placesB Y M).length (fun t => (((placesB Y M).getD t 0 : Nat) : Int))
      have hE4' := hid hE4
      have hEE := hid (made_again hlM.out rfl hE4)
      have R9_places := hid hpA
      have R9_nums := hid hpN
      clear hpA hpN hE4 hKX hGv K9_a K9_b K9_res K9_rn K9_n K9_rb K9_back K9_rp K9_pre K9_places hB9 hsq'
      obtain ⟨c0_b, c1_b, f0_b, f1_b⟩ := (R9_b.out).facts
      have cp0 := R9_places.out.cell 0
      simp only [List.getElem?_toArray, List.getElem?_cons_zero] at cp0
      go_wp2_with fail
      have s10_a := hid (R9_a.out).lt
      have s10_b := hid (R9_b.out).lt
      have s10_res := hid (R9_res.out).lt
      have s10_n := hid (R9_n.out).lt
      have s10_back := hid (R9_back.out).lt
      have s10_places := hid (R9_places.out).lt
      refine Calls.mono (Calls.mono (make_calls M po (placesB Y M).length pc (fun t => (((placesB Y M).getD t 0 : Nat) : Int)) hm'.out hpL _ R9_nums.out) (fun e w' h => Made.gives h hE4'.out)) ?_
      rintro e w10 ⟨hb, so4, hown, rfl⟩
      clear cp0
      clear c0_b c1_b f0_b f1_b
      have K10_a := hid (At.keptAll (R9_a.out) hb)
      have K10_b := hid (At.keptAll (R9_b.out) hb)
      have K10_res := hid (At.keptAll (R9_res.out) hb)
      have K10_n := hid (At.keptAll (R9_n.out) hb)
      have K10_back := hid (At.keptAll (R9_back.out) hb)
      have K10_rn := hid ((R9_rn.out).kept hb)
      have K10_rb := hid ((R9_rb.out).kept hb)
      have K10_places := hid (At.keptAll (R9_places.out) hb)
      have K10_nums := hid ((R9_nums.out).kept hb)
      have K10_D := hid (mark_kept (hDef.out) hb)
      have hB10 : Below w.heap.size w w10 := Below.trans hB9r (Below.mono hb hB9r.size)
      clear R9_a R9_b R9_res R9_n R9_back R9_rn R9_rb R9_places R9_nums hDef hb hB9r
      rw [Int.toNat_natCast] at hown
      have K10_ra := hid hown
      clear hown
      have ne_a_again := (K10_a.out).lt
      have ne_b_again := (K10_b.out).lt
      have ne_res_again := (K10_res.out).lt
      have ne_n_again := (K10_n.out).lt
      have ne_back_again := (K10_back.out).lt
      have ne_places_again := (K10_places.out).lt
      have al : Below w10.heap.size w10 (w10.alloc (.cells #[.int .i64 q4, .slice so4 r4 r4] 24)) := (Below.refl _ _).alloc (Nat.le_refl _) _
      have K11_a := hid (At.alloc (K10_a.out) (.cells #[.int .i64 q4, .slice so4 r4 r4] 24))
      have K11_b := hid (At.alloc (K10_b.out) (.cells #[.int .i64 q4, .slice so4 r4 r4] 24))
      have K11_res := hid (At.alloc (K10_res.out) (.cells #[.int .i64 q4, .slice so4 r4 r4] 24))
      have K11_n := hid (At.alloc (K10_n.out) (.cells #[.int .i64 q4, .slice so4 r4 r4] 24))
      have K11_back := hid (At.alloc (K10_back.out) (.cells #[.int .i64 q4, .slice so4 r4 r4] 24))
      have K11_rn := hid ((K10_rn.out).kept al)
      have K11_rb := hid ((K10_rb.out).kept al)
      have K11_places := hid (At.alloc (K10_places.out) (.cells #[.int .i64 q4, .slice so4 r4 r4] 24))
      have K11_nums := hid ((K10_nums.out).kept al)
      have K11_D := hid (mark_kept (K10_D.out) al)
      have K11_ra := hid ((K10_ra.out).kept al)
      have K11_again := hid (At.new w10 #[.int .i64 q4, .slice so4 r4 r4] 24)
      have hB11 := Below.alloc hB10 hB10.size (.cells #[.int .i64 q4, .slice so4 r4 r4] 24)
      clear al K10_a K10_b K10_res K10_n K10_back K10_rn K10_rb K10_places K10_nums K10_D K10_ra hB10
      go_upto_region 18 with fail
      have hBu := hB11
      have V_b := hid (hV'.out.kept hBu)
      have V_back := hid ((K11_rb.out).wds hY.out)
      have V_raN := hid (K11_ra.out)
      have CL := hid (show cntIn Y M 0 (M : Int) = (placesB Y M).length from (cntIn_all Y M).trans (placesB_len Y M).symm)
      have EL := hid (show Eff (M : Int) l Y M from Or.inl ⟨hf'.out, (Int.toNat_natCast M).symm⟩)
      have h0w := hid (show (Lit.int .i64 0).wf = true from rfl)
      generalize hwu : (w10.alloc (.cells #[.int .i64 q4, .slice so4 r4 r4] 24)) = wu at *
      clear hwu
      go_cut [121] from 29 to 120 (fun b wx => b = .bool false ∧ Below wu.heap.size wu wx)
      case first => as_aux_lemma =>
        rcases hEE.out with ⟨hM, rfl, rfl, rfl⟩ | ⟨hM, rfl, rfl, rfl⟩
        · obtain ⟨c0_b, -, -, -⟩ := (K11_b.out).facts
          have cp0 := (K11_places.out).cell 0
          simp only [List.getElem?_toArray, List.getElem?_cons_zero] at cp0
          have cc := hid c0_b
          have cq := hid cp0
          have hMi : (M : Int) ≤ 16777216 := by omega
          have V_again := hid ((V_raN.out.congr (Z' := Y) (fun j hj => again_row' hf'.out hj (hY.out j hj))).wds hY.out)
          have eNN : ((((placesB Y M).length : Nat) : Int) != (((placesB Y M).length : Nat) : Int)) = false := by simp
          have AB := hid (K11_b.out)
          have AK := hid (K11_back.out)
          have AG := hid (K11_again.out)
          clear V_raN c0_b cp0
          refine wp_region_quiet (C := (fun w' => w'.cell? ⟨w.heap.size + 1, 0, none⟩ = some (.int .i64 (M : Int)) ∧ w'.cell? ⟨w6.heap.size + 1, 0, none⟩ = some (.slice po (placesB Y M).length pc) ∧ Below wu.heap.size wu w')) (by kernel_rfl) (by kernel_rfl) (⟨cellK cc.out ((Below.refl _ _).drew), cellK cq.out ((Below.refl _ _).drew), (Below.refl _ _).drew⟩) ?_
          dsimp only
          repeat (first
            | (refine wpQuiet_skip (by rfl) ?_; simp only [Act.put, List.setIfInBounds_toArray, List.set_cons_zero, List.set_cons_succ])
            | (refine wpQuiet_load 24 _ (w4.heap.size) (0) [.int .i64 (M : Int), .slice so2 l l] _ (fun wq hq => At.range (At.keptAll AK.out hq.2.2) rfl) Tryd.underlying24 sizeBits rfl rfl rfl (by rfl) ?_; simp only [Act.put, List.setIfInBounds_toArray, List.set_cons_zero, List.set_cons_succ])
            | (refine wpQuiet_load 24 _ (w.heap.size + 1) (0) [.int .i64 (M : Int), .slice bo l cap'] _ (fun wq hq => At.range (At.keptAll AB.out hq.2.2) rfl) Tryd.underlying24 sizeBits rfl rfl rfl (by rfl) ?_; simp only [Act.put, List.setIfInBounds_toArray, List.set_cons_zero, List.set_cons_succ])
            | (refine wpQuiet_load 24 _ (w10.heap.size) (0) [.int .i64 (M : Int), .slice so4 l l] _ (fun wq hq => At.range (At.keptAll AG.out hq.2.2) rfl) Tryd.underlying24 sizeBits rfl rfl rfl (by rfl) ?_; simp only [Act.put, List.setIfInBounds_toArray, List.set_cons_zero, List.set_cons_succ])
            | (refine' wpQuiet_take (by rfl) ?_ ?_
               rotate_left
               · (intro wq hq; (try dsimp only at hq); go_simp
                  first
                    | done
                    | with_reducible rfl
                    | (go_at_call 18; with_reducible refine (same_tr M so2 bo l l cap' Y hm'.out hl2 _ (V_back.out.kept hq.2.2) (V_b.out.kept hq.2.2)).mono ?_; rintro e wz ⟨rfl, hb⟩; exact ⟨rfl, cellK hq.1 hb, cellK hq.2.1 hb, Below.trans hq.2.2 (Below.mono hb hq.2.2.size)⟩)
                    | (go_at_call 18; with_reducible refine (same_tr M so4 bo l l cap' Y hm'.out hl2 _ (V_again.out.kept hq.2.2) (V_b.out.kept hq.2.2)).mono ?_; rintro e wz ⟨rfl, hb⟩; exact ⟨rfl, cellK hq.1 hb, cellK hq.2.1 hb, Below.trans hq.2.2 (Below.mono hb hq.2.2.size)⟩)
                    | (go_at_call 8; with_reducible refine (count_calls M 0 M bo l cap' Y M (placesB Y M).length hm'.out h0w.out hm'.out hl2 EL CL _ (V_b.out.kept hq.2.2)).mono ?_; rintro e wz ⟨rfl, hb⟩; exact ⟨rfl, cellK hq.1 hb, cellK hq.2.1 hb, Below.trans hq.2.2 (Below.mono hb hq.2.2.size)⟩)
                 )
               simp only [Act.put, List.setIfInBounds_toArray, List.set_cons_zero, List.set_cons_succ]))
          refine wpQuiet_nil ?_
          intro wz hz
          go_wp2
          go_meet
          case rel => exact ⟨by first | rfl | simp, hz.2.2⟩
        · obtain ⟨c0_b, -, -, -⟩ := (K11_b.out).facts
          have cp0 := (K11_places.out).cell 0
          simp only [List.getElem?_toArray, List.getElem?_cons_zero] at cp0
          have cc := hid c0_b
          have cq := hid cp0
          have hMi : ¬ (M : Int) ≤ 16777216 := by omega
          have eNN : ((((placesB Y M).length : Nat) : Int) != (((placesB Y M).length : Nat) : Int)) = false := by simp
          have AB := hid (K11_b.out)
          have AK := hid (K11_back.out)
          have AG := hid (K11_again.out)
          clear V_raN c0_b cp0
          refine wp_region_quiet (C := (fun w' => w'.cell? ⟨w.heap.size + 1, 0, none⟩ = some (.int .i64 (M : Int)) ∧ w'.cell? ⟨w6.heap.size + 1, 0, none⟩ = some (.slice po (placesB Y M).length pc) ∧ Below wu.heap.size wu w')) (by kernel_rfl) (by kernel_rfl) (⟨cellK cc.out ((Below.refl _ _).drew), cellK cq.out ((Below.refl _ _).drew), (Below.refl _ _).drew⟩) ?_
          dsimp only
          repeat (first
            | (refine wpQuiet_skip (by rfl) ?_; simp only [Act.put, List.setIfInBounds_toArray, List.set_cons_zero, List.set_cons_succ])
            | (refine wpQuiet_load 24 _ (w4.heap.size) (0) [.int .i64 (M : Int), .slice so2 l l] _ (fun wq hq => At.range (At.keptAll AK.out hq.2.2) rfl) Tryd.underlying24 sizeBits rfl rfl rfl (by rfl) ?_; simp only [Act.put, List.setIfInBounds_toArray, List.set_cons_zero, List.set_cons_succ])
            | (refine wpQuiet_load 24 _ (w.heap.size + 1) (0) [.int .i64 (M : Int), .slice bo l cap'] _ (fun wq hq => At.range (At.keptAll AB.out hq.2.2) rfl) Tryd.underlying24 sizeBits rfl rfl rfl (by rfl) ?_; simp only [Act.put, List.setIfInBounds_toArray, List.set_cons_zero, List.set_cons_succ])
            | (refine' wpQuiet_take (by rfl) ?_ ?_
               rotate_left
               · (intro wq hq; (try dsimp only at hq); go_simp
                  first
                    | done
                    | with_reducible rfl
                    | (go_at_call 18; with_reducible refine (same_tr M so2 bo l l cap' Y hm'.out hl2 _ (V_back.out.kept hq.2.2) (V_b.out.kept hq.2.2)).mono ?_; rintro e wz ⟨rfl, hb⟩; exact ⟨rfl, cellK hq.1 hb, cellK hq.2.1 hb, Below.trans hq.2.2 (Below.mono hb hq.2.2.size)⟩)
                    | (go_at_call 8; with_reducible refine (count_calls M 0 M bo l cap' Y M (placesB Y M).length hm'.out h0w.out hm'.out hl2 EL CL _ (V_b.out.kept hq.2.2)).mono ?_; rintro e wz ⟨rfl, hb⟩; exact ⟨rfl, cellK hq.1 hb, cellK hq.2.1 hb, Below.trans hq.2.2 (Below.mono hb hq.2.2.size)⟩)
                 )
               simp only [Act.put, List.setIfInBounds_toArray, List.set_cons_zero, List.set_cons_succ]))
          refine wpQuiet_nil ?_
          intro wz hz
          go_wp2
          go_meet
          case rel => exact ⟨by first | rfl | simp, hz.2.2⟩
      case rest =>
        obtain ⟨rfl, hb⟩ := hcut
        clear V_b V_back V_raN hEE hE4'
        clear K11_places
        clear K11_nums
        clear K11_back
        clear K11_rb
        clear K11_ra
        clear K11_again
        skip
        generalize wc = w12 at *
        have K12_a := hid (At.keptAll (K11_a.out) hb)
        have K12_b := hid (At.keptAll (K11_b.out) hb)
        have K12_res := hid (At.keptAll (K11_res.out) hb)
        have K12_n := hid (At.keptAll (K11_n.out) hb)
        have K12_rn := hid ((K11_rn.out).kept hb)
        have K12_D := hid (mark_kept (K11_D.out) hb)
        have hB12 : Below w.heap.size w w12 := Below.trans hBu (Below.mono hb hBu.size)
        clear K11_a K11_b K11_res K11_n K11_rn K11_D hb hBu
        obtain ⟨E6, q6, r6, hE6⟩ := joinE_ex n (M : Int) k l X Y
        have hE6' := hid hE6
        clear hE6
        obtain ⟨c0_a, c1_a, f0_a, f1_a⟩ := (K12_a.out).facts
        obtain ⟨c0_b, c1_b, f0_b, f1_b⟩ := (K12_b.out).facts
        go_wp2_with fail
        have s13_a := hid (K12_a.out).lt
        have s13_b := hid (K12_b.out).lt
        have s13_res := hid (K12_res.out).lt
        have s13_n := hid (K12_n.out).lt
        refine Calls.mono (and_gives n M ao bo k l cap cap' X Y E6 q6 r6 hn'.out hm'.out hk2 hl2 hE6' _ (hW'.out.kept hB12) (hV'.out.kept hB12)) ?_
        rintro e w13 ⟨hb, so6, hown, rfl⟩
        clear c0_a c1_a f0_a f1_a c0_b c1_b f0_b f1_b
        have K13_a := hid (At.keptAll (K12_a.out) hb)
        have K13_b := hid (At.keptAll (K12_b.out) hb)
        have K13_res := hid (At.keptAll (K12_res.out) hb)
        have K13_n := hid (At.keptAll (K12_n.out) hb)
        have K13_rn := hid ((K12_rn.out).kept hb)
        have K13_D := hid (mark_kept (K12_D.out) hb)
        have hB13 : Below w.heap.size w w13 := Below.trans hB12 (Below.mono hb hB12.size)
        clear K12_a K12_b K12_res K12_n K12_rn K12_D hb hB12
        have K13_rand := hid hown
        clear hown
        have ne_a_and := (K13_a.out).lt
        have ne_b_and := (K13_b.out).lt
        have ne_res_and := (K13_res.out).lt
        have ne_n_and := (K13_n.out).lt
        have al : Below w13.heap.size w13 (w13.alloc (.cells #[.int .i64 q6, .slice so6 r6 r6] 24)) := (Below.refl _ _).alloc (Nat.le_refl _) _
        have K14_a := hid (At.alloc (K13_a.out) (.cells #[.int .i64 q6, .slice so6 r6 r6] 24))
        have K14_b := hid (At.alloc (K13_b.out) (.cells #[.int .i64 q6, .slice so6 r6 r6] 24))
        have K14_res := hid (At.alloc (K13_res.out) (.cells #[.int .i64 q6, .slice so6 r6 r6] 24))
        have K14_n := hid (At.alloc (K13_n.out) (.cells #[.int .i64 q6, .slice so6 r6 r6] 24))
        have K14_rn := hid ((K13_rn.out).kept al)
        have K14_D := hid (mark_kept (K13_D.out) al)
        have K14_rand := hid ((K13_rand.out).kept al)
        have K14_and := hid (At.new w13 #[.int .i64 q6, .slice so6 r6 r6] 24)
        have hB14 := Below.alloc hB13 hB13.size (.cells #[.int .i64 q6, .slice so6 r6 r6] 24)
        clear al K13_a K13_b K13_res K13_n K13_rn K13_D K13_rand hB13
        go_upto_region 21 with fail
        generalize (w13.alloc (.cells #[.int .i64 q6, .slice so6 r6 r6] 24)) = wv at *
        rcases hE6'.out with ⟨hj1, rfl, rfl, rfl⟩ | ⟨hj1, hj2, rfl, rfl, rfl⟩ | ⟨hj1, hj2, rfl, rfl, rfl⟩
        · have hnf2 := hid (show formed n k X ↔ false = true from ⟨fun h => (hj1 ⟨h, hf'.out⟩).elim, fun h => (by cases h)⟩)
          clear hj1 hE6'
          obtain ⟨c0_a, c1_a, f0_a, f1_a⟩ := (K14_a.out).facts
          go_wp2_with fail
          have s15_a := hid (K14_a.out).lt
          have s15_b := hid (K14_b.out).lt
          have s15_res := hid (K14_res.out).lt
          have s15_n := hid (K14_n.out).lt
          have s15_and := hid (K14_and.out).lt
          refine Calls.mono (formed_calls n ao k cap X false hn'.out hk2 hnf2 _ (hW'.out.kept hB14)) ?_
          rintro e w15 ⟨rfl, hb⟩
          clear c0_a c1_a f0_a f1_a
          have K15_a := hid (At.keptAll (K14_a.out) hb)
          have K15_b := hid (At.keptAll (K14_b.out) hb)
          have K15_res := hid (At.keptAll (K14_res.out) hb)
          have K15_n := hid (At.keptAll (K14_n.out) hb)
          have K15_rn := hid ((K14_rn.out).kept hb)
          have K15_D := hid (mark_kept (K14_D.out) hb)
          have K15_rand := hid ((K14_rand.out).kept hb)
          have K15_and := hid (At.keptAll (K14_and.out) hb)
          have hB15 : Below w.heap.size w w15 := Below.trans hB14 (Below.mono hb hB14.size)
          clear K14_a K14_b K14_res K14_n K14_rn K14_D K14_rand K14_and hb hB14
          have cr0 := (K15_res.out).cell 0
          have fr0 := (K15_res.out).frozen 0
          simp only [List.getElem?_toArray, List.getElem?_cons_zero] at cr0
          have kD : (w15.setCell ⟨w.heap.size + 1 + 1, 0, none⟩ (.bool true)).heap[D]? = some (.deferred (some [])) := (Below.heap_setCell w15 ⟨w.heap.size + 1 + 1, 0, none⟩ _ D (by show D ≠ w.heap.size + 1 + 1; omega)).trans K15_D.out
          have cr := World.cell?_setCell_same' w15 ⟨w.heap.size + 1 + 1, 0, none⟩ (.bool true) (by rw [cr0]; rfl)
          have cr2 := cell_kept cr (grownBy_putObj' _ D (.deferred none)) (fun r e => by cases e; exact ⟨_, kD, rfl⟩)
          have hBe := hB15.setCell (p := ⟨w.heap.size + 1 + 1, 0, none⟩) (by show w.heap.size ≤ w.heap.size + 1 + 1; omega) (.bool true)
          have hBe2 := hBe.trans (belowK_b (w := w) (Nat.le_refl _) _ D _ (.deferred none) (by omega) kD rfl rfl)
          go_wp2
          refine ⟨by simp, .inl ⟨_, _, rfl, run_takeDeferred kD, ?_⟩⟩
          refine ⟨.bool true, ?_, rfl, hBe2⟩
          simp [results, Tryd.f4, go_sem, cr2]
        · have hnM : (n != (M : Int)) = true := by simpa using hj2
          clear hj1 hj2 hE6'
          obtain ⟨c0_a, c1_a, f0_a, f1_a⟩ := (K14_a.out).facts
          obtain ⟨c0_b, c1_b, f0_b, f1_b⟩ := (K14_b.out).facts
          have cr0 := (K14_res.out).cell 0
          have fr0 := (K14_res.out).frozen 0
          simp only [List.getElem?_toArray, List.getElem?_cons_zero] at cr0
          have kD : (wv.setCell ⟨w.heap.size + 1 + 1, 0, none⟩ (.bool true)).heap[D]? = some (.deferred (some [])) := (Below.heap_setCell wv ⟨w.heap.size + 1 + 1, 0, none⟩ _ D (by show D ≠ w.heap.size + 1 + 1; omega)).trans K14_D.out
          have cr := World.cell?_setCell_same' wv ⟨w.heap.size + 1 + 1, 0, none⟩ (.bool true) (by rw [cr0]; rfl)
          have cr2 := cell_kept cr (grownBy_putObj' _ D (.deferred none)) (fun r e => by cases e; exact ⟨_, kD, rfl⟩)
          have hBe := hB14.setCell (p := ⟨w.heap.size + 1 + 1, 0, none⟩) (by show w.heap.size ≤ w.heap.size + 1 + 1; omega) (.bool true)
          have hBe2 := hBe.trans (belowK_b (w := w) (Nat.le_refl _) _ D _ (.deferred none) (by omega) kD rfl rfl)
          go_wp2
          refine ⟨by simp, .inl ⟨_, _, rfl, run_takeDeferred kD, ?_⟩⟩
          refine ⟨.bool true, ?_, rfl, hBe2⟩
          simp [results, Tryd.f4, go_sem, cr2]
        · subst hj2
          have hkl : l = r6 := by have h1 := hj1.1.2.1; have h2 := hlM.out; simp at h1; rw [h1, h2]
          subst hkl
          have hfX := hid hj1.1
          clear hj1 hE6'
          have hXl := hid (fun j hj => hX.out j hj)
          have hJ := hid (show joinE (M : Int) (M : Int) l l X Y 0 (M : Int) l from .inr (.inr ⟨⟨hfX.out, hf'.out⟩, rfl, rfl, rfl, rfl⟩))
          have hand := K14_rand.out
          rw [Int.toNat_natCast] at hand
          have RA_rand := hid hand
          clear hand K14_rand
          obtain ⟨c0_a, c1_a, f0_a, f1_a⟩ := (K14_a.out).facts
          obtain ⟨c0_b, c1_b, f0_b, f1_b⟩ := (K14_b.out).facts
          go_wp2_with fail
          have s15_a := hid (K14_a.out).lt
          have s15_b := hid (K14_b.out).lt
          have s15_res := hid (K14_res.out).lt
          have s15_n := hid (K14_n.out).lt
          have s15_and := hid (K14_and.out).lt
          refine Calls.mono (or_gives M M ao bo l l cap cap' X Y 0 M l hm'.out hm'.out hl2 hl2 hJ _ (hW'.out.kept hB14) (hV'.out.kept hB14)) ?_
          rintro e w15 ⟨hb, so7, hown, rfl⟩
          clear c0_a c1_a f0_a f1_a c0_b c1_b f0_b f1_b
          have K15_a := hid (At.keptAll (K14_a.out) hb)
          have K15_b := hid (At.keptAll (K14_b.out) hb)
          have K15_res := hid (At.keptAll (K14_res.out) hb)
          have K15_n := hid (At.keptAll (K14_n.out) hb)
          have K15_rn := hid ((K14_rn.out).kept hb)
          have K15_D := hid (mark_kept (K14_D.out) hb)
          have K15_rand := hid ((RA_rand.out).kept hb)
          have K15_and := hid (At.keptAll (K14_and.out) hb)
          have hB15 : Below w.heap.size w w15 := Below.trans hB14 (Below.mono hb hB14.size)
          clear K14_a K14_b K14_res K14_n K14_rn K14_D RA_rand K14_and hb hB14
          rw [Int.toNat_natCast] at hown
          have K15_ror := hid hown
          clear hown
          have ne_a_or := (K15_a.out).lt
          have ne_b_or := (K15_b.out).lt
          have ne_res_or := (K15_res.out).lt
          have ne_n_or := (K15_n.out).lt
          have ne_and_or := (K15_and.out).lt
          have al : Below w15.heap.size w15 (w15.alloc (.cells #[.int .i64 (M : Int), .slice so7 l l] 24)) := (Below.refl _ _).alloc (Nat.le_refl _) _
          have K16_a := hid (At.alloc (K15_a.out) (.cells #[.int .i64 (M : Int), .slice so7 l l] 24))
          have K16_b := hid (At.alloc (K15_b.out) (.cells #[.int .i64 (M : Int), .slice so7 l l] 24))
          have K16_res := hid (At.alloc (K15_res.out) (.cells #[.int .i64 (M : Int), .slice so7 l l] 24))
          have K16_n := hid (At.alloc (K15_n.out) (.cells #[.int .i64 (M : Int), .slice so7 l l] 24))
          have K16_rn := hid ((K15_rn.out).kept al)
          have K16_D := hid (mark_kept (K15_D.out) al)
          have K16_rand := hid ((K15_rand.out).kept al)
          have K16_and := hid (At.alloc (K15_and.out) (.cells #[.int .i64 (M : Int), .slice so7 l l] 24))
          have K16_ror := hid ((K15_ror.out).kept al)
          have K16_or := hid (At.new w15 #[.int .i64 (M : Int), .slice so7 l l] 24)
          have hB16 := Below.alloc hB15 hB15.size (.cells #[.int .i64 (M : Int), .slice so7 l l] 24)
          clear al K15_a K15_b K15_res K15_n K15_rn K15_D K15_rand K15_and K15_ror hB15
          obtain ⟨c0_a, c1_a, f0_a, f1_a⟩ := (K16_a.out).facts
          obtain ⟨c0_b, c1_b, f0_b, f1_b⟩ := (K16_b.out).facts
          go_wp2_with fail
          have s17_a := hid (K16_a.out).lt
          have s17_b := hid (K16_b.out).lt
          have s17_res := hid (K16_res.out).lt
          have s17_n := hid (K16_n.out).lt
          have s17_and := hid (K16_and.out).lt
          have s17_or := hid (K16_or.out).lt
          refine Calls.mono (xor_gives M M ao bo l l cap cap' X Y 0 M l hm'.out hm'.out hl2 hl2 hJ _ (hW'.out.kept hB16) (hV'.out.kept hB16)) ?_
          rintro e w17 ⟨hb, so8, hown, rfl⟩
          clear c0_a c1_a f0_a f1_a c0_b c1_b f0_b f1_b
          have K17_a := hid (At.keptAll (K16_a.out) hb)
          have K17_b := hid (At.keptAll (K16_b.out) hb)
          have K17_res := hid (At.keptAll (K16_res.out) hb)
          have K17_n := hid (At.keptAll (K16_n.out) hb)
          have K17_rn := hid ((K16_rn.out).kept hb)
          have K17_D := hid (mark_kept (K16_D.out) hb)
          have K17_rand := hid ((K16_rand.out).kept hb)
          have K17_and := hid (At.keptAll (K16_and.out) hb)
          have K17_ror := hid ((K16_ror.out).kept hb)
          have K17_or := hid (At.keptAll (K16_or.out) hb)
          have hB17 : Below w.heap.size w w17 := Below.trans hB16 (Below.mono hb hB16.size)
          clear K16_a K16_b K16_res K16_n K16_rn K16_D K16_rand K16_and K16_ror K16_or hb hB16
          rw [Int.toNat_natCast] at hown
          have K17_rxor := hid hown
          clear hown
          have ne_a_xor := (K17_a.out).lt
          have ne_b_xor := (K17_b.out).lt
          have ne_res_xor := (K17_res.out).lt
          have ne_n_xor := (K17_n.out).lt
          have ne_and_xor := (K17_and.out).lt
          have ne_or_xor := (K17_or.out).lt
          have al : Below w17.heap.size w17 (w17.alloc (.cells #[.int .i64 (M : Int), .slice so8 l l] 24)) := (Below.refl _ _).alloc (Nat.le_refl _) _
          have K18_a := hid (At.alloc (K17_a.out) (.cells #[.int .i64 (M : Int), .slice so8 l l] 24))
          have K18_b := hid (At.alloc (K17_b.out) (.cells #[.int .i64 (M : Int), .slice so8 l l] 24))
          have K18_res := hid (At.alloc (K17_res.out) (.cells #[.int .i64 (M : Int), .slice so8 l l] 24))
          have K18_n := hid (At.alloc (K17_n.out) (.cells #[.int .i64 (M : Int), .slice so8 l l] 24))
          have K18_rn := hid ((K17_rn.out).kept al)
          have K18_D := hid (mark_kept (K17_D.out) al)
          have K18_rand := hid ((K17_rand.out).kept al)
          have K18_and := hid (At.alloc (K17_and.out) (.cells #[.int .i64 (M : Int), .slice so8 l l] 24))
          have K18_ror := hid ((K17_ror.out).kept al)
          have K18_or := hid (At.alloc (K17_or.out) (.cells #[.int .i64 (M : Int), .slice so8 l l] 24))
          have K18_rxor := hid ((K17_rxor.out).kept al)
          have K18_xor := hid (At.new w17 #[.int .i64 (M : Int), .slice so8 l l] 24)
          have hB18 := Below.alloc hB17 hB17.size (.cells #[.int .i64 (M : Int), .slice so8 l l] 24)
          clear al K17_a K17_b K17_res K17_n K17_rn K17_D K17_rand K17_and K17_ror K17_or K17_rxor hB17
          obtain ⟨c0_a, c1_a, f0_a, f1_a⟩ := (K18_a.out).facts
          obtain ⟨c0_b, c1_b, f0_b, f1_b⟩ := (K18_b.out).facts
          go_wp2_with fail
          have s19_a := hid (K18_a.out).lt
          have s19_b := hid (K18_b.out).lt
          have s19_res := hid (K18_res.out).lt
          have s19_n := hid (K18_n.out).lt
          have s19_and := hid (K18_and.out).lt
          have s19_or := hid (K18_or.out).lt
          have s19_xor := hid (K18_xor.out).lt
          refine Calls.mono (minus_gives M M ao bo l l cap cap' X Y 0 M l hm'.out hm'.out hl2 hl2 hJ _ (hW'.out.kept hB18) (hV'.out.kept hB18)) ?_
          rintro e w19 ⟨hb, so9, hown, rfl⟩
          clear c0_a c1_a f0_a f1_a c0_b c1_b f0_b f1_b
          have K19_a := hid (At.keptAll (K18_a.out) hb)
          have K19_b := hid (At.keptAll (K18_b.out) hb)
          have K19_res := hid (At.keptAll (K18_res.out) hb)
          have K19_n := hid (At.keptAll (K18_n.out) hb)
          have K19_rn := hid ((K18_rn.out).kept hb)
          have K19_D := hid (mark_kept (K18_D.out) hb)
          have K19_rand := hid ((K18_rand.out).kept hb)
          have K19_and := hid (At.keptAll (K18_and.out) hb)
          have K19_ror := hid ((K18_ror.out).kept hb)
          have K19_or := hid (At.keptAll (K18_or.out) hb)
          have K19_rxor := hid ((K18_rxor.out).kept hb)
          have K19_xor := hid (At.keptAll (K18_xor.out) hb)
          have hB19 : Below w.heap.size w w19 := Below.trans hB18 (Below.mono hb hB18.size)
          clear K18_a K18_b K18_res K18_n K18_rn K18_D K18_rand K18_and K18_ror K18_or K18_rxor K18_xor hb hB18
          rw [Int.toNat_natCast] at hown
          have K19_rminus := hid hown
          clear hown
          have ne_a_minus := (K19_a.out).lt
          have ne_b_minus := (K19_b.out).lt
          have ne_res_minus := (K19_res.out).lt
          have ne_n_minus := (K19_n.out).lt
          have ne_and_minus := (K19_and.out).lt
          have ne_or_minus := (K19_or.out).lt
          have ne_xor_minus := (K19_xor.out).lt
          have al : Below w19.heap.size w19 (w19.alloc (.cells #[.int .i64 (M : Int), .slice so9 l l] 24)) := (Below.refl _ _).alloc (Nat.le_refl _) _
          have K20_a := hid (At.alloc (K19_a.out) (.cells #[.int .i64 (M : Int), .slice so9 l l] 24))
          have K20_b := hid (At.alloc (K19_b.out) (.cells #[.int .i64 (M : Int), .slice so9 l l] 24))
          have K20_res := hid (At.alloc (K19_res.out) (.cells #[.int .i64 (M : Int), .slice so9 l l] 24))
          have K20_n := hid (At.alloc (K19_n.out) (.cells #[.int .i64 (M : Int), .slice so9 l l] 24))
          have K20_rn := hid ((K19_rn.out).kept al)
          have K20_D := hid (mark_kept (K19_D.out) al)
          have K20_rand := hid ((K19_rand.out).kept al)
          have K20_and := hid (At.alloc (K19_and.out) (.cells #[.int .i64 (M : Int), .slice so9 l l] 24))
          have K20_ror := hid ((K19_ror.out).kept al)
          have K20_or := hid (At.alloc (K19_or.out) (.cells #[.int .i64 (M : Int), .slice so9 l l] 24))
          have K20_rxor := hid ((K19_rxor.out).kept al)
          have K20_xor := hid (At.alloc (K19_xor.out) (.cells #[.int .i64 (M : Int), .slice so9 l l] 24))
          have K20_rminus := hid ((K19_rminus.out).kept al)
          have K20_minus := hid (At.new w19 #[.int .i64 (M : Int), .slice so9 l l] 24)
          have hB20 := Below.alloc hB19 hB19.size (.cells #[.int .i64 (M : Int), .slice so9 l l] 24)
          clear al K19_a K19_b K19_res K19_n K19_rn K19_D K19_rand K19_and K19_ror K19_or K19_rxor K19_xor K19_rminus hB19
          have hJ1 := hid (show joinE (M : Int) (M : Int) l l X (rowOf (fun i => !bitAt Y i) M) 0 (M : Int) l from .inr (.inr ⟨⟨hfX.out, hZf.out _⟩, rfl, rfl, rfl, rfl⟩))
          obtain ⟨c0_a, c1_a, f0_a, f1_a⟩ := (K20_a.out).facts
          obtain ⟨c0_n, c1_n, f0_n, f1_n⟩ := (K20_n.out).facts
          go_wp2_with fail
          have s21_a := hid (K20_a.out).lt
          have s21_b := hid (K20_b.out).lt
          have s21_res := hid (K20_res.out).lt
          have s21_n := hid (K20_n.out).lt
          have s21_and := hid (K20_and.out).lt
          have s21_or := hid (K20_or.out).lt
          have s21_xor := hid (K20_xor.out).lt
          have s21_minus := hid (K20_minus.out).lt
          refine Calls.mono (and_gives M M ao so1 l l cap l X (rowOf (fun i => !bitAt Y i) M) 0 M l hm'.out hm'.out hl2 hl2 hJ1 _ (hW'.out.kept hB20) ((K20_rn.out).wds (fun j _ => rowOf_lt _ _ _))) ?_
          rintro e w21 ⟨hb, so10, hown, rfl⟩
          clear c0_a c1_a f0_a f1_a c0_n c1_n f0_n f1_n
          have K21_a := hid (At.keptAll (K20_a.out) hb)
          have K21_b := hid (At.keptAll (K20_b.out) hb)
          have K21_res := hid (At.keptAll (K20_res.out) hb)
          have K21_n := hid (At.keptAll (K20_n.out) hb)
          have K21_rn := hid ((K20_rn.out).kept hb)
          have K21_D := hid (mark_kept (K20_D.out) hb)
          have K21_rand := hid ((K20_rand.out).kept hb)
          have K21_and := hid (At.keptAll (K20_and.out) hb)
          have K21_ror := hid ((K20_ror.out).kept hb)
          have K21_or := hid (At.keptAll (K20_or.out) hb)
          have K21_rxor := hid ((K20_rxor.out).kept hb)
          have K21_xor := hid (At.keptAll (K20_xor.out) hb)
          have K21_rminus := hid ((K20_rminus.out).kept hb)
          have K21_minus := hid (At.keptAll (K20_minus.out) hb)
          have hB21 : Below w.heap.size w w21 := Below.trans hB20 (Below.mono hb hB20.size)
          clear K20_a K20_b K20_res K20_n K20_rn K20_D K20_rand K20_and K20_ror K20_or K20_rxor K20_xor K20_rminus K20_minus hb hB20
          rw [Int.toNat_natCast] at hown
          replace hown := hown.congr (Z' := (rowOf (fun i => bitAt X i && !bitAt Y i) M)) (fun j _ => (minus_row X Y j).symm)
          have K21_rother := hid hown
          clear hown
          have ne_a_other := (K21_a.out).lt
          have ne_b_other := (K21_b.out).lt
          have ne_res_other := (K21_res.out).lt
          have ne_n_other := (K21_n.out).lt
          have ne_and_other := (K21_and.out).lt
          have ne_or_other := (K21_or.out).lt
          have ne_xor_other := (K21_xor.out).lt
          have ne_minus_other := (K21_minus.out).lt
          have al : Below w21.heap.size w21 (w21.alloc (.cells #[.int .i64 (M : Int), .slice so10 l l] 24)) := (Below.refl _ _).alloc (Nat.le_refl _) _
          have K22_a := hid (At.alloc (K21_a.out) (.cells #[.int .i64 (M : Int), .slice so10 l l] 24))
          have K22_b := hid (At.alloc (K21_b.out) (.cells #[.int .i64 (M : Int), .slice so10 l l] 24))
          have K22_res := hid (At.alloc (K21_res.out) (.cells #[.int .i64 (M : Int), .slice so10 l l] 24))
          have K22_n := hid (At.alloc (K21_n.out) (.cells #[.int .i64 (M : Int), .slice so10 l l] 24))
          have K22_rn := hid ((K21_rn.out).kept al)
          have K22_D := hid (mark_kept (K21_D.out) al)
          have K22_rand := hid ((K21_rand.out).kept al)
          have K22_and := hid (At.alloc (K21_and.out) (.cells #[.int .i64 (M : Int), .slice so10 l l] 24))
          have K22_ror := hid ((K21_ror.out).kept al)
          have K22_or := hid (At.alloc (K21_or.out) (.cells #[.int .i64 (M : Int), .slice so10 l l] 24))
          have K22_rxor := hid ((K21_rxor.out).kept al)
          have K22_xor := hid (At.alloc (K21_xor.out) (.cells #[.int .i64 (M : Int), .slice so10 l l] 24))
          have K22_rminus := hid ((K21_rminus.out).kept al)
          have K22_minus := hid (At.alloc (K21_minus.out) (.cells #[.int .i64 (M : Int), .slice so10 l l] 24))
          have K22_rother := hid ((K21_rother.out).kept al)
          have K22_other := hid (At.new w21 #[.int .i64 (M : Int), .slice so10 l l] 24)
          have hB22 := Below.alloc hB21 hB21.size (.cells #[.int .i64 (M : Int), .slice so10 l l] 24)
          clear al K21_a K21_b K21_res K21_n K21_rn K21_D K21_rand K21_and K21_ror K21_or K21_rxor K21_xor K21_rminus K21_minus K21_rother hB21
          have hJ2 := hid (show joinE (M : Int) (M : Int) l l (rowOf (fun i => bitAt X i || bitAt Y i) M) (rowOf (fun i => bitAt X i && bitAt Y i) M) 0 (M : Int) l from .inr (.inr ⟨⟨hZf.out _, hZf.out _⟩, rfl, rfl, rfl, rfl⟩))
          obtain ⟨c0_or, c1_or, f0_or, f1_or⟩ := (K22_or.out).facts
          obtain ⟨c0_and, c1_and, f0_and, f1_and⟩ := (K22_and.out).facts
          go_wp2_with fail
          have s23_a := hid (K22_a.out).lt
          have s23_b := hid (K22_b.out).lt
          have s23_res := hid (K22_res.out).lt
          have s23_n := hid (K22_n.out).lt
          have s23_and := hid (K22_and.out).lt
          have s23_or := hid (K22_or.out).lt
          have s23_xor := hid (K22_xor.out).lt
          have s23_minus := hid (K22_minus.out).lt
          have s23_other := hid (K22_other.out).lt
          refine Calls.mono (minus_gives M M so7 so6 l l l l (rowOf (fun i => bitAt X i || bitAt Y i) M) (rowOf (fun i => bitAt X i && bitAt Y i) M) 0 M l hm'.out hm'.out hl2 hl2 hJ2 _ ((K22_ror.out).wds (fun j _ => rowOf_lt _ _ _)) ((K22_rand.out).wds (fun j _ => rowOf_lt _ _ _))) ?_
          rintro e w23 ⟨hb, so11, hown, rfl⟩
          clear c0_or c1_or f0_or f1_or c0_and c1_and f0_and f1_and
          have K23_a := hid (At.keptAll (K22_a.out) hb)
          have K23_b := hid (At.keptAll (K22_b.out) hb)
          have K23_res := hid (At.keptAll (K22_res.out) hb)
          have K23_n := hid (At.keptAll (K22_n.out) hb)
          have K23_rn := hid ((K22_rn.out).kept hb)
          have K23_D := hid (mark_kept (K22_D.out) hb)
          have K23_rand := hid ((K22_rand.out).kept hb)
          have K23_and := hid (At.keptAll (K22_and.out) hb)
          have K23_ror := hid ((K22_ror.out).kept hb)
          have K23_or := hid (At.keptAll (K22_or.out) hb)
          have K23_rxor := hid ((K22_rxor.out).kept hb)
          have K23_xor := hid (At.keptAll (K22_xor.out) hb)
          have K23_rminus := hid ((K22_rminus.out).kept hb)
          have K23_minus := hid (At.keptAll (K22_minus.out) hb)
          have K23_rother := hid ((K22_rother.out).kept hb)
          have K23_other := hid (At.keptAll (K22_other.out) hb)
          have hB23 : Below w.heap.size w w23 := Below.trans hB22 (Below.mono hb hB22.size)
          clear K22_a K22_b K22_res K22_n K22_rn K22_D K22_rand K22_and K22_ror K22_or K22_rxor K22_xor K22_rminus K22_minus K22_rother K22_other hb hB22
          rw [Int.toNat_natCast] at hown
          replace hown := hown.congr (Z' := (rowOf (fun i => bitAt X i ^^ bitAt Y i) M)) (fun j _ => (xor_row X Y j).symm)
          have K23_rless := hid hown
          clear hown
          have ne_a_less := (K23_a.out).lt
          have ne_b_less := (K23_b.out).lt
          have ne_res_less := (K23_res.out).lt
          have ne_n_less := (K23_n.out).lt
          have ne_and_less := (K23_and.out).lt
          have ne_or_less := (K23_or.out).lt
          have ne_xor_less := (K23_xor.out).lt
          have ne_minus_less := (K23_minus.out).lt
          have ne_other_less := (K23_other.out).lt
          have al : Below w23.heap.size w23 (w23.alloc (.cells #[.int .i64 (M : Int), .slice so11 l l] 24)) := (Below.refl _ _).alloc (Nat.le_refl _) _
          have K24_a := hid (At.alloc (K23_a.out) (.cells #[.int .i64 (M : Int), .slice so11 l l] 24))
          have K24_b := hid (At.alloc (K23_b.out) (.cells #[.int .i64 (M : Int), .slice so11 l l] 24))
          have K24_res := hid (At.alloc (K23_res.out) (.cells #[.int .i64 (M : Int), .slice so11 l l] 24))
          have K24_n := hid (At.alloc (K23_n.out) (.cells #[.int .i64 (M : Int), .slice so11 l l] 24))
          have K24_rn := hid ((K23_rn.out).kept al)
          have K24_D := hid (mark_kept (K23_D.out) al)
          have K24_rand := hid ((K23_rand.out).kept al)
          have K24_and := hid (At.alloc (K23_and.out) (.cells #[.int .i64 (M : Int), .slice so11 l l] 24))
          have K24_ror := hid ((K23_ror.out).kept al)
          have K24_or := hid (At.alloc (K23_or.out) (.cells #[.int .i64 (M : Int), .slice so11 l l] 24))
          have K24_rxor := hid ((K23_rxor.out).kept al)
          have K24_xor := hid (At.alloc (K23_xor.out) (.cells #[.int .i64 (M : Int), .slice so11 l l] 24))
          have K24_rminus := hid ((K23_rminus.out).kept al)
          have K24_minus := hid (At.alloc (K23_minus.out) (.cells #[.int .i64 (M : Int), .slice so11 l l] 24))
          have K24_rother := hid ((K23_rother.out).kept al)
          have K24_other := hid (At.alloc (K23_other.out) (.cells #[.int .i64 (M : Int), .slice so11 l l] 24))
          have K24_rless := hid ((K23_rless.out).kept al)
          have K24_less := hid (At.new w23 #[.int .i64 (M : Int), .slice so11 l l] 24)
          have hB24 := Below.alloc hB23 hB23.size (.cells #[.int .i64 (M : Int), .slice so11 l l] 24)
          clear al K23_a K23_b K23_res K23_n K23_rn K23_D K23_rand K23_and K23_ror K23_or K23_rxor K23_xor K23_rminus K23_minus K23_rother K23_other K23_rless hB23
          have hJ3 := hid (show joinE (M : Int) (M : Int) l l Y X 0 (M : Int) l from .inr (.inr ⟨⟨hf'.out, hfX.out⟩, rfl, rfl, rfl, rfl⟩))
          obtain ⟨c0_b, c1_b, f0_b, f1_b⟩ := (K24_b.out).facts
          obtain ⟨c0_a, c1_a, f0_a, f1_a⟩ := (K24_a.out).facts
          go_wp2_with fail
          have s25_a := hid (K24_a.out).lt
          have s25_b := hid (K24_b.out).lt
          have s25_res := hid (K24_res.out).lt
          have s25_n := hid (K24_n.out).lt
          have s25_and := hid (K24_and.out).lt
          have s25_or := hid (K24_or.out).lt
          have s25_xor := hid (K24_xor.out).lt
          have s25_minus := hid (K24_minus.out).lt
          have s25_other := hid (K24_other.out).lt
          have s25_less := hid (K24_less.out).lt
          refine Calls.mono (or_gives M M bo ao l l cap' cap Y X 0 M l hm'.out hm'.out hl2 hl2 hJ3 _ (hV'.out.kept hB24) (hW'.out.kept hB24)) ?_
          rintro e w25 ⟨hb, so12, hown, rfl⟩
          clear c0_b c1_b f0_b f1_b c0_a c1_a f0_a f1_a
          have K25_a := hid (At.keptAll (K24_a.out) hb)
          have K25_b := hid (At.keptAll (K24_b.out) hb)
          have K25_res := hid (At.keptAll (K24_res.out) hb)
          have K25_n := hid (At.keptAll (K24_n.out) hb)
          have K25_rn := hid ((K24_rn.out).kept hb)
          have K25_D := hid (mark_kept (K24_D.out) hb)
          have K25_rand := hid ((K24_rand.out).kept hb)
          have K25_and := hid (At.keptAll (K24_and.out) hb)
          have K25_ror := hid ((K24_ror.out).kept hb)
          have K25_or := hid (At.keptAll (K24_or.out) hb)
          have K25_rxor := hid ((K24_rxor.out).kept hb)
          have K25_xor := hid (At.keptAll (K24_xor.out) hb)
          have K25_rminus := hid ((K24_rminus.out).kept hb)
          have K25_minus := hid (At.keptAll (K24_minus.out) hb)
          have K25_rother := hid ((K24_rother.out).kept hb)
          have K25_other := hid (At.keptAll (K24_other.out) hb)
          have K25_rless := hid ((K24_rless.out).kept hb)
          have K25_less := hid (At.keptAll (K24_less.out) hb)
          have hB25 : Below w.heap.size w w25 := Below.trans hB24 (Below.mono hb hB24.size)
          clear K24_a K24_b K24_res K24_n K24_rn K24_D K24_rand K24_and K24_ror K24_or K24_rxor K24_xor K24_rminus K24_minus K24_rother K24_other K24_rless K24_less hb hB24
          rw [Int.toNat_natCast] at hown
          replace hown := hown.congr (Z' := (rowOf (fun i => bitAt X i || bitAt Y i) M)) (fun j _ => (or_row X Y j).symm)
          have K25_rturned := hid hown
          clear hown
          have ne_a_turned := (K25_a.out).lt
          have ne_b_turned := (K25_b.out).lt
          have ne_res_turned := (K25_res.out).lt
          have ne_n_turned := (K25_n.out).lt
          have ne_and_turned := (K25_and.out).lt
          have ne_or_turned := (K25_or.out).lt
          have ne_xor_turned := (K25_xor.out).lt
          have ne_minus_turned := (K25_minus.out).lt
          have ne_other_turned := (K25_other.out).lt
          have ne_less_turned := (K25_less.out).lt
          have al : Below w25.heap.size w25 (w25.alloc (.cells #[.int .i64 (M : Int), .slice so12 l l] 24)) := (Below.refl _ _).alloc (Nat.le_refl _) _
          have K26_a := hid (At.alloc (K25_a.out) (.cells #[.int .i64 (M : Int), .slice so12 l l] 24))
          have K26_b := hid (At.alloc (K25_b.out) (.cells #[.int .i64 (M : Int), .slice so12 l l] 24))
          have K26_res := hid (At.alloc (K25_res.out) (.cells #[.int .i64 (M : Int), .slice so12 l l] 24))
          have K26_n := hid (At.alloc (K25_n.out) (.cells #[.int .i64 (M : Int), .slice so12 l l] 24))
          have K26_rn := hid ((K25_rn.out).kept al)
          have K26_D := hid (mark_kept (K25_D.out) al)
          have K26_rand := hid ((K25_rand.out).kept al)
          have K26_and := hid (At.alloc (K25_and.out) (.cells #[.int .i64 (M : Int), .slice so12 l l] 24))
          have K26_ror := hid ((K25_ror.out).kept al)
          have K26_or := hid (At.alloc (K25_or.out) (.cells #[.int .i64 (M : Int), .slice so12 l l] 24))
          have K26_rxor := hid ((K25_rxor.out).kept al)
          have K26_xor := hid (At.alloc (K25_xor.out) (.cells #[.int .i64 (M : Int), .slice so12 l l] 24))
          have K26_rminus := hid ((K25_rminus.out).kept al)
          have K26_minus := hid (At.alloc (K25_minus.out) (.cells #[.int .i64 (M : Int), .slice so12 l l] 24))
          have K26_rother := hid ((K25_rother.out).kept al)
          have K26_other := hid (At.alloc (K25_other.out) (.cells #[.int .i64 (M : Int), .slice so12 l l] 24))
          have K26_rless := hid ((K25_rless.out).kept al)
          have K26_less := hid (At.alloc (K25_less.out) (.cells #[.int .i64 (M : Int), .slice so12 l l] 24))
          have K26_rturned := hid ((K25_rturned.out).kept al)
          have K26_turned := hid (At.new w25 #[.int .i64 (M : Int), .slice so12 l l] 24)
          have hB26 := Below.alloc hB25 hB25.size (.cells #[.int .i64 (M : Int), .slice so12 l l] 24)
          clear al K25_a K25_b K25_res K25_n K25_rn K25_D K25_rand K25_and K25_ror K25_or K25_rxor K25_xor K25_rminus K25_minus K25_rother K25_other K25_rless K25_less K25_rturned hB25
          obtain ⟨c0_minus, c1_minus, f0_minus, f1_minus⟩ := (K26_minus.out).facts
          obtain ⟨c0_other, c1_other, f0_other, f1_other⟩ := (K26_other.out).facts
          go_wp2_with fail
          have s27_a := hid (K26_a.out).lt
          have s27_b := hid (K26_b.out).lt
          have s27_res := hid (K26_res.out).lt
          have s27_n := hid (K26_n.out).lt
          have s27_and := hid (K26_and.out).lt
          have s27_or := hid (K26_or.out).lt
          have s27_xor := hid (K26_xor.out).lt
          have s27_minus := hid (K26_minus.out).lt
          have s27_other := hid (K26_other.out).lt
          have s27_less := hid (K26_less.out).lt
          have s27_turned := hid (K26_turned.out).lt
          refine Calls.mono (same_tr M so9 so10 l l l (rowOf (fun i => bitAt X i && !bitAt Y i) M) hm'.out hl2 _ ((K26_rminus.out).wds (fun j _ => rowOf_lt _ _ _)) ((K26_rother.out).wds (fun j _ => rowOf_lt _ _ _))) ?_
          rintro e w27 ⟨rfl, hb⟩
          clear c0_minus c1_minus f0_minus f1_minus c0_other c1_other f0_other f1_other
          have K27_a := hid (At.keptAll (K26_a.out) hb)
          have K27_b := hid (At.keptAll (K26_b.out) hb)
          have K27_res := hid (At.keptAll (K26_res.out) hb)
          have K27_n := hid (At.keptAll (K26_n.out) hb)
          have K27_rn := hid ((K26_rn.out).kept hb)
          have K27_D := hid (mark_kept (K26_D.out) hb)
          have K27_rand := hid ((K26_rand.out).kept hb)
          have K27_and := hid (At.keptAll (K26_and.out) hb)
          have K27_ror := hid ((K26_ror.out).kept hb)
          have K27_or := hid (At.keptAll (K26_or.out) hb)
          have K27_rxor := hid ((K26_rxor.out).kept hb)
          have K27_xor := hid (At.keptAll (K26_xor.out) hb)
          have K27_rminus := hid ((K26_rminus.out).kept hb)
          have K27_minus := hid (At.keptAll (K26_minus.out) hb)
          have K27_rother := hid ((K26_rother.out).kept hb)
          have K27_other := hid (At.keptAll (K26_other.out) hb)
          have K27_rless := hid ((K26_rless.out).kept hb)
          have K27_less := hid (At.keptAll (K26_less.out) hb)
          have K27_rturned := hid ((K26_rturned.out).kept hb)
          have K27_turned := hid (At.keptAll (K26_turned.out) hb)
          have hB27 : Below w.heap.size w w27 := Below.trans hB26 (Below.mono hb hB26.size)
          clear K26_a K26_b K26_res K26_n K26_rn K26_D K26_rand K26_and K26_ror K26_or K26_rxor K26_xor K26_rminus K26_minus K26_rother K26_other K26_rless K26_less K26_rturned K26_turned hb hB26
          obtain ⟨c0_xor, c1_xor, f0_xor, f1_xor⟩ := (K27_xor.out).facts
          obtain ⟨c0_less, c1_less, f0_less, f1_less⟩ := (K27_less.out).facts
          go_wp2_with fail
          have s28_a := hid (K27_a.out).lt
          have s28_b := hid (K27_b.out).lt
          have s28_res := hid (K27_res.out).lt
          have s28_n := hid (K27_n.out).lt
          have s28_and := hid (K27_and.out).lt
          have s28_or := hid (K27_or.out).lt
          have s28_xor := hid (K27_xor.out).lt
          have s28_minus := hid (K27_minus.out).lt
          have s28_other := hid (K27_other.out).lt
          have s28_less := hid (K27_less.out).lt
          have s28_turned := hid (K27_turned.out).lt
          refine Calls.mono (same_tr M so8 so11 l l l (rowOf (fun i => bitAt X i ^^ bitAt Y i) M) hm'.out hl2 _ ((K27_rxor.out).wds (fun j _ => rowOf_lt _ _ _)) ((K27_rless.out).wds (fun j _ => rowOf_lt _ _ _))) ?_
          rintro e w28 ⟨rfl, hb⟩
          clear c0_xor c1_xor f0_xor f1_xor c0_less c1_less f0_less f1_less
          have K28_a := hid (At.keptAll (K27_a.out) hb)
          have K28_b := hid (At.keptAll (K27_b.out) hb)
          have K28_res := hid (At.keptAll (K27_res.out) hb)
          have K28_n := hid (At.keptAll (K27_n.out) hb)
          have K28_rn := hid ((K27_rn.out).kept hb)
          have K28_D := hid (mark_kept (K27_D.out) hb)
          have K28_rand := hid ((K27_rand.out).kept hb)
          have K28_and := hid (At.keptAll (K27_and.out) hb)
          have K28_ror := hid ((K27_ror.out).kept hb)
          have K28_or := hid (At.keptAll (K27_or.out) hb)
          have K28_rxor := hid ((K27_rxor.out).kept hb)
          have K28_xor := hid (At.keptAll (K27_xor.out) hb)
          have K28_rminus := hid ((K27_rminus.out).kept hb)
          have K28_minus := hid (At.keptAll (K27_minus.out) hb)
          have K28_rother := hid ((K27_rother.out).kept hb)
          have K28_other := hid (At.keptAll (K27_other.out) hb)
          have K28_rless := hid ((K27_rless.out).kept hb)
          have K28_less := hid (At.keptAll (K27_less.out) hb)
          have K28_rturned := hid ((K27_rturned.out).kept hb)
          have K28_turned := hid (At.keptAll (K27_turned.out) hb)
          have hB28 : Below w.heap.size w w28 := Below.trans hB27 (Below.mono hb hB27.size)
          clear K27_a K27_b K27_res K27_n K27_rn K27_D K27_rand K27_and K27_ror K27_or K27_rxor K27_xor K27_rminus K27_minus K27_rother K27_other K27_rless K27_less K27_rturned K27_turned hb hB27
          obtain ⟨c0_or, c1_or, f0_or, f1_or⟩ := (K28_or.out).facts
          obtain ⟨c0_turned, c1_turned, f0_turned, f1_turned⟩ := (K28_turned.out).facts
          go_wp2_with fail
          have s29_a := hid (K28_a.out).lt
          have s29_b := hid (K28_b.out).lt
          have s29_res := hid (K28_res.out).lt
          have s29_n := hid (K28_n.out).lt
          have s29_and := hid (K28_and.out).lt
          have s29_or := hid (K28_or.out).lt
          have s29_xor := hid (K28_xor.out).lt
          have s29_minus := hid (K28_minus.out).lt
          have s29_other := hid (K28_other.out).lt
          have s29_less := hid (K28_less.out).lt
          have s29_turned := hid (K28_turned.out).lt
          refine Calls.mono (same_tr M so7 so12 l l l (rowOf (fun i => bitAt X i || bitAt Y i) M) hm'.out hl2 _ ((K28_ror.out).wds (fun j _ => rowOf_lt _ _ _)) ((K28_rturned.out).wds (fun j _ => rowOf_lt _ _ _))) ?_
          rintro e w29 ⟨rfl, hb⟩
          clear c0_or c1_or f0_or f1_or c0_turned c1_turned f0_turned f1_turned
          have K29_a := hid (At.keptAll (K28_a.out) hb)
          have K29_b := hid (At.keptAll (K28_b.out) hb)
          have K29_res := hid (At.keptAll (K28_res.out) hb)
          have K29_n := hid (At.keptAll (K28_n.out) hb)
          have K29_rn := hid ((K28_rn.out).kept hb)
          have K29_D := hid (mark_kept (K28_D.out) hb)
          have K29_rand := hid ((K28_rand.out).kept hb)
          have K29_and := hid (At.keptAll (K28_and.out) hb)
          have K29_ror := hid ((K28_ror.out).kept hb)
          have K29_or := hid (At.keptAll (K28_or.out) hb)
          have K29_rxor := hid ((K28_rxor.out).kept hb)
          have K29_xor := hid (At.keptAll (K28_xor.out) hb)
          have K29_rminus := hid ((K28_rminus.out).kept hb)
          have K29_minus := hid (At.keptAll (K28_minus.out) hb)
          have K29_rother := hid ((K28_rother.out).kept hb)
          have K29_other := hid (At.keptAll (K28_other.out) hb)
          have K29_rless := hid ((K28_rless.out).kept hb)
          have K29_less := hid (At.keptAll (K28_less.out) hb)
          have K29_rturned := hid ((K28_rturned.out).kept hb)
          have K29_turned := hid (At.keptAll (K28_turned.out) hb)
          have hB29 : Below w.heap.size w w29 := Below.trans hB28 (Below.mono hb hB28.size)
          clear K28_a K28_b K28_res K28_n K28_rn K28_D K28_rand K28_and K28_ror K28_or K28_rxor K28_xor K28_rminus K28_minus K28_rother K28_other K28_rless K28_less K28_rturned K28_turned hb hB28
          obtain ⟨c0_a, c1_a, f0_a, f1_a⟩ := (K29_a.out).facts
          obtain ⟨c0_b, c1_b, f0_b, f1_b⟩ := (K29_b.out).facts
          go_upto_region 31 with fail
          rename_i Kv hKv
          clear c0_a c1_a f0_a f1_a c0_b c1_b f0_b f1_b
          obtain ⟨c0_a, c1_a, -, -⟩ := (K29_a.out).facts
          have V_a := hid (hW'.out.kept hB29)
          obtain ⟨c0_b, c1_b, -, -⟩ := (K29_b.out).facts
          have V_b := hid (hV'.out.kept hB29)
          obtain ⟨c0_or, c1_or, -, -⟩ := (K29_or.out).facts
          have V_or := hid ((K29_ror.out).wds (fun j _ => rowOf_lt _ _ _))
          obtain ⟨c0_and, c1_and, -, -⟩ := (K29_and.out).facts
          have V_and := hid ((K29_rand.out).wds (fun j _ => rowOf_lt _ _ _))
          have E_a := hid (show Eff (M : Int) l X M from Or.inl ⟨hfX.out, (Int.toNat_natCast M).symm⟩)
          obtain ⟨n_a, C_a⟩ : ∃ c, Hid (cntB X M = c) := ⟨_, rfl⟩
          have D_a := hid ((cntIn_all X M).trans C_a.out)
          have b_a : n_a ≤ 67108864 := by have h1 := cntB_le X M; rw [C_a.out] at h1; omega
          have E_b := hid (show Eff (M : Int) l Y M from Or.inl ⟨hf'.out, (Int.toNat_natCast M).symm⟩)
          obtain ⟨n_b, C_b⟩ : ∃ c, Hid (cntB Y M = c) := ⟨_, rfl⟩
          have D_b := hid ((cntIn_all Y M).trans C_b.out)
          have b_b : n_b ≤ 67108864 := by have h1 := cntB_le Y M; rw [C_b.out] at h1; omega
          have E_or := hid (show Eff (M : Int) l (rowOf (fun i => bitAt X i || bitAt Y i) M) M from Or.inl ⟨hZf.out _, (Int.toNat_natCast M).symm⟩)
          obtain ⟨n_or, C_or⟩ : ∃ c, Hid (cntB (rowOf (fun i => bitAt X i || bitAt Y i) M) M = c) := ⟨_, rfl⟩
          have D_or := hid ((cntIn_all (rowOf (fun i => bitAt X i || bitAt Y i) M) M).trans C_or.out)
          have b_or : n_or ≤ 67108864 := by have h1 := cntB_le (rowOf (fun i => bitAt X i || bitAt Y i) M) M; rw [C_or.out] at h1; omega
          have E_and := hid (show Eff (M : Int) l (rowOf (fun i => bitAt X i && bitAt Y i) M) M from Or.inl ⟨hZf.out _, (Int.toNat_natCast M).symm⟩)
          obtain ⟨n_and, C_and⟩ : ∃ c, Hid (cntB (rowOf (fun i => bitAt X i && bitAt Y i) M) M = c) := ⟨_, rfl⟩
          have D_and := hid ((cntIn_all (rowOf (fun i => bitAt X i && bitAt Y i) M) M).trans C_and.out)
          have b_and : n_and ≤ 67108864 := by have h1 := cntB_le (rowOf (fun i => bitAt X i && bitAt Y i) M) M; rw [C_and.out] at h1; omega
          have hs := count_row (N := M) X Y
          rw [C_a.out, C_b.out, C_or.out, C_and.out] at hs
          have e31 := hid (show ((n_a : Int) + (n_b : Int) == (n_or : Int) + (n_and : Int)) = true from by simp; omega)
          have e32 := hid (show (IntKind.i64.wrap ((n_a : Int) + (n_b : Int)) == IntKind.i64.wrap ((n_or : Int) + (n_and : Int))) = true from by rw [show (n_a : Int) + (n_b : Int) = (n_or : Int) + (n_and : Int) by omega]; simp)
          clear hs C_a C_b C_or C_and
          refine wp_region_held_only (S := fun w' => w'.cell? ⟨w.heap.size, 0, none⟩ = some (.int .i64 (M : Int)) ∧ w'.cell? ⟨w.heap.size, 1, none⟩ = some (.slice ao l cap) ∧ w'.cell? ⟨(w.heap.size + 1), 0, none⟩ = some (.int .i64 (M : Int)) ∧ w'.cell? ⟨(w.heap.size + 1), 1, none⟩ = some (.slice bo l cap') ∧ w'.cell? ⟨w15.heap.size, 0, none⟩ = some (.int .i64 (M : Int)) ∧ w'.cell? ⟨w15.heap.size, 1, none⟩ = some (.slice so7 l l) ∧ w'.cell? ⟨w13.heap.size, 0, none⟩ = some (.int .i64 (M : Int)) ∧ w'.cell? ⟨w13.heap.size, 1, none⟩ = some (.slice so6 l l)) (by kernel_rfl) ⟨cellK c0_a (Below.refl _ _).drew, cellK c1_a (Below.refl _ _).drew, cellK c0_b (Below.refl _ _).drew, cellK c1_b (Below.refl _ _).drew, cellK c0_or (Below.refl _ _).drew, cellK c1_or (Below.refl _ _).drew, cellK c0_and (Below.refl _ _).drew, cellK c1_and (Below.refl _ _).drew⟩ (fun hH0 => ?_)
          clear c0_a c1_a c0_b c1_b c0_or c1_or c0_and c1_and
          have hbt0 := hid (show Below w29.heap.size w29 w29.drew from (Below.refl _ _).drew)
          (refine' wpAnyH_take (i := 0) rfl (by kernel_rfl) (by kernel_rfl) (by kernel_rfl) (fun _ _ _ h => h) (Or.inl ⟨by rfl, ?_⟩) (by assumption) ?_; rotate_left; (· (intro wq hq; (try dsimp only at hq); go_simp; first | done | with_reducible rfl)); simp only [Act.put, List.getElem_toArray, List.getElem_cons_zero, List.setIfInBounds_toArray, List.set_cons_zero, List.set_cons_succ])
          (refine' wpAnyH_take (i := 1) rfl (by kernel_rfl) (by kernel_rfl) (by kernel_rfl) (fun _ _ _ h => h) (Or.inl ⟨by rfl, ?_⟩) (by assumption) ?_; rotate_left; (· (intro wq hq; (try dsimp only at hq); go_simp; first | done | with_reducible rfl)); simp only [Act.put, List.getElem_toArray, List.getElem_cons_zero, List.getElem_cons_succ, List.setIfInBounds_toArray, List.set_cons_zero, List.set_cons_succ])
          (refine' wpAnyH_take (i := 2) rfl (by kernel_rfl) (by kernel_rfl) (by kernel_rfl) (fun _ _ _ h => h) (Or.inl ⟨by rfl, ?_⟩) (by assumption) ?_; rotate_left; (· (intro wq hq; (try dsimp only at hq); go_simp; first | done | with_reducible rfl)); simp only [Act.put, List.getElem_toArray, List.getElem_cons_zero, List.getElem_cons_succ, List.setIfInBounds_toArray, List.set_cons_zero, List.set_cons_succ])
          (refine' wpAnyH_take (i := 4) rfl (by kernel_rfl) (by kernel_rfl) (by kernel_rfl) (fun _ _ _ h => h) (Or.inl ⟨by rfl, ?_⟩) (by assumption) ?_; rotate_left; (· (intro wq hq; (try dsimp only at hq); go_simp; first | done | with_reducible rfl)); simp only [Act.put, List.getElem_toArray, List.getElem_cons_zero, List.getElem_cons_succ, List.setIfInBounds_toArray, List.set_cons_zero, List.set_cons_succ])
          (refine' wpAnyH_take (i := 5) rfl (by kernel_rfl) (by kernel_rfl) (by kernel_rfl) (fun _ _ _ h => h) (Or.inl ⟨by rfl, ?_⟩) (by assumption) ?_; rotate_left; (· (intro wq hq; (try dsimp only at hq); go_simp; first | done | with_reducible rfl)); simp only [Act.put, List.getElem_toArray, List.getElem_cons_zero, List.getElem_cons_succ, List.setIfInBounds_toArray, List.set_cons_zero, List.set_cons_succ])
          (refine' wpAnyH_take (i := 6) rfl (by kernel_rfl) (by kernel_rfl) (by kernel_rfl) (fun _ _ _ h => h) (Or.inl ⟨by rfl, ?_⟩) (by assumption) ?_; rotate_left; (· (intro wq hq; (try dsimp only at hq); go_simp; first | done | with_reducible rfl)); simp only [Act.put, List.getElem_toArray, List.getElem_cons_zero, List.getElem_cons_succ, List.setIfInBounds_toArray, List.set_cons_zero, List.set_cons_succ])
          (refine' wpAnyH_take (i := 9) rfl (by kernel_rfl) (by kernel_rfl) (by kernel_rfl) (fun _ _ _ h => h) (Or.inl ⟨by rfl, ?_⟩) (by assumption) ?_; rotate_left; (· (intro wq hq; (try dsimp only at hq); go_simp; first | done | with_reducible rfl)); simp only [Act.put, List.getElem_toArray, List.getElem_cons_zero, List.getElem_cons_succ, List.setIfInBounds_toArray, List.set_cons_zero, List.set_cons_succ])
          (refine' wpAnyH_take (i := 10) rfl (by kernel_rfl) (by kernel_rfl) (by kernel_rfl) (fun _ _ _ h => h) (Or.inl ⟨by rfl, ?_⟩) (by assumption) ?_; rotate_left; (· (intro wq hq; (try dsimp only at hq); go_simp; first | done | with_reducible rfl)); simp only [Act.put, List.getElem_toArray, List.getElem_cons_zero, List.getElem_cons_succ, List.setIfInBounds_toArray, List.set_cons_zero, List.set_cons_succ])
          (refine' wpAnyH_take (i := 11) rfl (by kernel_rfl) (by kernel_rfl) (by kernel_rfl) (fun _ _ _ h => h) (Or.inl ⟨by rfl, ?_⟩) (by assumption) ?_; rotate_left; (· (intro wq hq; (try dsimp only at hq); go_simp; first | done | with_reducible rfl)); simp only [Act.put, List.getElem_toArray, List.getElem_cons_zero, List.getElem_cons_succ, List.setIfInBounds_toArray, List.set_cons_zero, List.set_cons_succ])
          (refine' wpAnyH_take (i := 13) rfl (by kernel_rfl) (by kernel_rfl) (by kernel_rfl) (fun _ _ _ h => h) (Or.inl ⟨by rfl, ?_⟩) (by assumption) ?_; rotate_left; (· (intro wq hq; (try dsimp only at hq); go_simp; first | done | with_reducible rfl)); simp only [Act.put, List.getElem_toArray, List.getElem_cons_zero, List.getElem_cons_succ, List.setIfInBounds_toArray, List.set_cons_zero, List.set_cons_succ])
          (refine' wpAnyH_take (i := 14) rfl (by kernel_rfl) (by kernel_rfl) (by kernel_rfl) (fun _ _ _ h => h) (Or.inl ⟨by rfl, ?_⟩) (by assumption) ?_; rotate_left; (· (intro wq hq; (try dsimp only at hq); go_simp; first | done | with_reducible rfl)); simp only [Act.put, List.getElem_toArray, List.getElem_cons_zero, List.getElem_cons_succ, List.setIfInBounds_toArray, List.set_cons_zero, List.set_cons_succ])
          (refine' wpAnyH_take (i := 15) rfl (by kernel_rfl) (by kernel_rfl) (by kernel_rfl) (fun _ _ _ h => h) (Or.inl ⟨by rfl, ?_⟩) (by assumption) ?_; rotate_left; (· (intro wq hq; (try dsimp only at hq); go_simp; first | done | with_reducible rfl)); simp only [Act.put, List.getElem_toArray, List.getElem_cons_zero, List.getElem_cons_succ, List.setIfInBounds_toArray, List.set_cons_zero, List.set_cons_succ])
          refine wpAnyH_ready (rs := [3]) (by kernel_rfl) (by simp) ?_
          refine AllReadyH.cons rfl (fun K hK => ?_) ?_
          rotate_left
          · exact AllReadyH.nil
          go_simp
          (go_at_call 8; refine Calls.mono (count_calls M 0 M ao l cap X M n_a hm'.out h0w.out hm'.out hl2 E_a D_a _ (V_a.out.kept hbt0.out)) ?_; rintro e wz0 ⟨rfl, hb⟩; (try dsimp only))
          refine hK.out _ _ ⟨cellK hH0.1 hb, cellK hH0.2.1 hb, cellK hH0.2.2.1 hb, cellK hH0.2.2.2.1 hb, cellK hH0.2.2.2.2.1 hb, cellK hH0.2.2.2.2.2.1 hb, cellK hH0.2.2.2.2.2.2.1 hb, cellK hH0.2.2.2.2.2.2.2 hb⟩ (fun hH1 => ?_)
          have hbt1 := hid (Below.trans hbt0.out (Below.mono hb hbt0.out.size))
          clear hK hb hH0 hbt0
          refine wpAnyH_ready (rs := [7]) (by kernel_rfl) (by simp) ?_
          refine AllReadyH.cons rfl (fun K hK => ?_) ?_
          rotate_left
          · exact AllReadyH.nil
          go_simp
          (go_at_call 8; refine Calls.mono (count_calls M 0 M bo l cap' Y M n_b hm'.out h0w.out hm'.out hl2 E_b D_b _ (V_b.out.kept hbt1.out)) ?_; rintro e wz1 ⟨rfl, hb⟩; (try dsimp only))
          refine hK.out _ _ ⟨cellK hH1.1 hb, cellK hH1.2.1 hb, cellK hH1.2.2.1 hb, cellK hH1.2.2.2.1 hb, cellK hH1.2.2.2.2.1 hb, cellK hH1.2.2.2.2.2.1 hb, cellK hH1.2.2.2.2.2.2.1 hb, cellK hH1.2.2.2.2.2.2.2 hb⟩ (fun hH2 => ?_)
          have hbt2 := hid (Below.trans hbt1.out (Below.mono hb hbt1.out.size))
          clear hK hb hH1 hbt1
          (refine' wpAnyH_take (i := 8) rfl (by kernel_rfl) (by kernel_rfl) (by kernel_rfl) (fun _ _ _ h => h) (Or.inl ⟨by rfl, ?_⟩) (by assumption) ?_; rotate_left; (· (intro wq hq; (try dsimp only at hq); go_simp; first | done | with_reducible rfl)); simp only [Act.put, List.getElem_toArray, List.getElem_cons_zero, List.getElem_cons_succ, List.setIfInBounds_toArray, List.set_cons_zero, List.set_cons_succ])
          refine wpAnyH_ready (rs := [12]) (by kernel_rfl) (by simp) ?_
          refine AllReadyH.cons rfl (fun K hK => ?_) ?_
          rotate_left
          · exact AllReadyH.nil
          go_simp
          (go_at_call 8; refine Calls.mono (count_calls M 0 M so7 l l (rowOf (fun i => bitAt X i || bitAt Y i) M) M n_or hm'.out h0w.out hm'.out hl2 E_or D_or _ (V_or.out.kept hbt2.out)) ?_; rintro e wz2 ⟨rfl, hb⟩; (try dsimp only))
          refine hK.out _ _ ⟨cellK hH2.1 hb, cellK hH2.2.1 hb, cellK hH2.2.2.1 hb, cellK hH2.2.2.2.1 hb, cellK hH2.2.2.2.2.1 hb, cellK hH2.2.2.2.2.2.1 hb, cellK hH2.2.2.2.2.2.2.1 hb, cellK hH2.2.2.2.2.2.2.2 hb⟩ (fun hH3 => ?_)
          have hbt3 := hid (Below.trans hbt2.out (Below.mono hb hbt2.out.size))
          clear hK hb hH2 hbt2
          refine wpAnyH_ready (rs := [16]) (by kernel_rfl) (by simp) ?_
          refine AllReadyH.cons rfl (fun K hK => ?_) ?_
          rotate_left
          · exact AllReadyH.nil
          go_simp
          (go_at_call 8; refine Calls.mono (count_calls M 0 M so6 l l (rowOf (fun i => bitAt X i && bitAt Y i) M) M n_and hm'.out h0w.out hm'.out hl2 E_and D_and _ (V_and.out.kept hbt3.out)) ?_; rintro e wz3 ⟨rfl, hb⟩; (try dsimp only))
          refine hK.out _ _ ⟨cellK hH3.1 hb, cellK hH3.2.1 hb, cellK hH3.2.2.1 hb, cellK hH3.2.2.2.1 hb, cellK hH3.2.2.2.2.1 hb, cellK hH3.2.2.2.2.2.1 hb, cellK hH3.2.2.2.2.2.2.1 hb, cellK hH3.2.2.2.2.2.2.2 hb⟩ (fun hH4 => ?_)
          have hbt4 := hid (Below.trans hbt3.out (Below.mono hb hbt3.out.size))
          clear hK hb hH3 hbt3
          (refine' wpAnyH_take (i := 17) rfl (by kernel_rfl) (by kernel_rfl) (by kernel_rfl) (fun _ _ _ h => h) (Or.inl ⟨by rfl, ?_⟩) (by assumption) ?_; rotate_left; (· (intro wq hq; (try dsimp only at hq); go_simp; first | done | with_reducible rfl)); simp only [Act.put, List.getElem_toArray, List.getElem_cons_zero, List.getElem_cons_succ, List.setIfInBounds_toArray, List.set_cons_zero, List.set_cons_succ])
          (refine' wpAnyH_take (i := 18) rfl (by kernel_rfl) (by kernel_rfl) (by kernel_rfl) (fun _ _ _ h => h) (Or.inl ⟨by rfl, ?_⟩) (by assumption) ?_; rotate_left; (· (intro wq hq; (try dsimp only at hq); go_simp; first | done | with_reducible rfl)); simp only [Act.put, List.getElem_toArray, List.getElem_cons_zero, List.getElem_cons_succ, List.setIfInBounds_toArray, List.set_cons_zero, List.set_cons_succ])
          have hbz := hbt4.out
          have resz := hid ((K29_res.out).keptAll hbz)
          have markz := hid (mark_kept (K29_D.out) hbz)
          have hBz : Below w.heap.size w wz3 := Below.trans hB29 (Below.mono hbz hB29.size)
          have Az_a := hid (At.other (p := ⟨w.heap.size + 1 + 1, 0, none⟩) ((K29_a.out).keptAll hbz) (by show w.heap.size ≠ w.heap.size + 1 + 1; omega) (.bool true))
          have Az_b := hid (At.other (p := ⟨w.heap.size + 1 + 1, 0, none⟩) ((K29_b.out).keptAll hbz) (by show (w.heap.size + 1) ≠ w.heap.size + 1 + 1; omega) (.bool true))
          have Az_or := hid (At.other (p := ⟨w.heap.size + 1 + 1, 0, none⟩) ((K29_or.out).keptAll hbz) (by show w15.heap.size ≠ w.heap.size + 1 + 1; omega) (.bool true))
          have Az_and := hid (At.other (p := ⟨w.heap.size + 1 + 1, 0, none⟩) ((K29_and.out).keptAll hbz) (by show w13.heap.size ≠ w.heap.size + 1 + 1; omega) (.bool true))
          try simp only [e31.out]
          try simp only [e32.out]
          have cr0 := (resz.out).cell 0
          have fr0 := (resz.out).frozen 0
          simp only [List.getElem?_toArray, List.getElem?_cons_zero] at cr0
          have kD : (wz3.setCell ⟨w.heap.size + 1 + 1, 0, none⟩ (.bool true)).heap[D]? = some (.deferred (some [])) := (Below.heap_setCell wz3 ⟨w.heap.size + 1 + 1, 0, none⟩ _ D (by show D ≠ w.heap.size + 1 + 1; omega)).trans markz.out
          have cr := World.cell?_setCell_same' wz3 ⟨w.heap.size + 1 + 1, 0, none⟩ (.bool true) (by rw [cr0]; rfl)
          have cr2 := cell_kept cr (grownBy_putObj' _ D (.deferred none)) (fun r e => by cases e; exact ⟨_, kD, rfl⟩)
          have hBe := hBz.setCell (p := ⟨w.heap.size + 1 + 1, 0, none⟩) (by show w.heap.size ≤ w.heap.size + 1 + 1; omega) (.bool true)
          have hBe2 := hBe.trans (belowK_b (w := w) (Nat.le_refl _) _ D _ (.deferred none) (by omega) kD rfl rfl)
          refine wpAnyH_ready (rs := [19]) (by kernel_rfl) (by simp) ?_
          refine AllReadyH.cons rfl (fun K hK => ?_) ?_
          rotate_left
          · exact AllReadyH.nil
          go_simp
          refine hK.out _ _ ⟨Az_a.out.facts.1, Az_a.out.facts.2.1, Az_b.out.facts.1, Az_b.out.facts.2.1, Az_or.out.facts.1, Az_or.out.facts.2.1, Az_and.out.facts.1, Az_and.out.facts.2.1⟩ (fun hH5 => ?_)
          clear hK hH5 hH4
          refine wpAnyH_done (by kernel_rfl) ?_ _
          refine hKv _ _ ?_
          clear hKv
          go_wp2
          refine ⟨by simp, .inl ⟨_, _, rfl, run_takeDeferred kD, ?_⟩⟩
          refine ⟨.bool true, ?_, rfl, hBe2⟩
          simp [results, Tryd.f4, go_sem, cr2]

    refine (wpIn_wide (n := 4)).1 ?_
    refine range_heldG (n := 4) (by decide) (gf := 39) (lb := #[.pointer (some ⟨Bl, 0, none⟩)]) rfl (enters_of Tryd.func39 (by kernel_rfl) rfl)
      (seqB_heldG (SafeI (w6.heap.size + 1)) (4 - 1) (by decide) Bl gs w.heap.size (w9.heap.size + 1 + 1) (placesB Y M) h0 w9 hB9.size (Nat.lt_of_lt_of_le h0 hB9.size) (Nat.le_refl _) (safeI_own _ _) (hT'.out.below hB9 h0) hsq'.out) (Below.refl _ _) (fun _ => rfl) HeldS.trans (fun W r r' h => heldI_turn h (by omega) (by omega))
      (fun pre W => KeptX w w9 (w6.heap.size + 1) W ∧ GathI W (w6.heap.size + 1) w9.heap.size (pre.map (· % 4611686018427387904)))
      (fun c pre W => c = .ret ∧ ¬ pre <+: placesB Y M)
      (fun _ X Y row h2 hg hr => ⟨h2.1.own hB9.size hg hr, h2.2.own hg (fun r e => (hr r e).2)⟩)
      (fun _ _ X Y row h hg hr => h)
      ⟨⟨hB9, Nat.le_refl _, fun _ _ _ _ h => h⟩, .slice none 0 0, K9_places.out, World.ownsRow_nil _ _ _ _⟩
      (fun pre A h => h.2.good hgl)
      (fun p => { tmps := #[bv n ao k cap, bv (M : Int) bo l cap', .pointer (some ⟨w.heap.size, 0, none⟩), .pointer (some ⟨w.heap.size + 1, 0, none⟩), .pointer (some ⟨w.heap.size + 1 + 1, 0, none⟩), .pointer (some ⟨w2.heap.size, 0, none⟩), .int .i64 0, .pointer (some ⟨w4.heap.size, 0, none⟩), .int .i64 0, .pointer (some ⟨w6.heap.size, 0, none⟩), .int .i64 0, .pointer (some ⟨w6.heap.size + 1, 0, none⟩), seqB Bl, .int .i64 ((p % 4611686018427387904 : Nat) : Int), undef, undef, undef, undef, undef, undef, undef, undef, undef, undef, undef, undef, undef, undef, undef, .bool true, .bool false, .tuple #[bv (M : Int) so1 l l, .int .i64 0], .agg #[.int .i64 (M : Int), .slice bo l cap'], .tuple #[bv (M : Int) so1 l l, .int .i64 0], bv (M : Int) so1 l l, .int .i64 0, .int .i64 0, .bool false, undef, undef, undef, undef, undef, undef, undef, undef, undef, undef, undef, undef, undef, undef, undef, undef, undef, undef, .tuple #[bv (M : Int) so2 l l, .int .i64 0], .agg #[.int .i64 (M : Int), .slice so1 l l], .tuple #[bv (M : Int) so2 l l, .int .i64 0], bv (M : Int) so2 l l, .int .i64 0, .tuple #[bv (M : Int) so3 l l, .int .i64 0], .agg #[.int .i64 (M : Int), .slice bo l cap'], .tuple #[bv (M : Int) so3 l l, .int .i64 0], bv (M : Int) so3 l l, .int .i64 0, .agg #[.int .i64 (M : Int), .slice bo l cap'], seqB Bl, seqB Bl, .bool false, seqB Bl, .int .i64 ((p % 4611686018427387904 : Nat) : Int), undef, undef, undef, undef, undef, undef, undef, undef, undef, undef, undef, undef, undef, undef, undef, undef, undef, undef, undef, undef, undef, undef, undef, undef, undef, undef, undef, undef, undef, undef, undef, undef, undef, undef, undef, undef, undef, undef, undef, undef, undef, undef, undef, undef, undef, undef, undef, undef, undef, undef, undef, undef, undef, undef, undef, undef, undef, undef, undef, undef, undef, undef, undef, undef, undef, undef, undef, undef, undef, undef, undef, undef, undef, undef, undef, undef, undef, undef, undef, undef, undef, undef, undef, undef, undef, undef, undef, undef, undef, undef, undef, undef, undef, undef, undef, undef, undef, undef, undef, undef, undef, undef, undef, undef, undef, undef, undef, undef, undef, undef, undef, undef, undef, undef, undef, undef, undef, undef, undef, undef, undef, undef, undef, undef, undef, undef, undef, undef, undef, undef, undef, undef, undef, undef, undef, undef, undef, undef, undef, undef, undef, undef, undef, undef, undef, undef, undef, undef, undef, undef, undef, undef, undef, undef], defers := [] })
      ?assign ?body ?done ?stop
    case assign =>
      intro l p W K hK
      rw [encB]
      try dsimp only at hK
      generalize p % 4611686018427387904 = q at *
      gi_wp2
      exact hK
    case done =>
      rintro D xs W hD rfl ⟨hKX, hGv⟩ hDef
      exact rest D W hD (hid hKX) (hid hGv) (hid hDef)
    case stop =>
      rintro D c pre W hD hpre ⟨-, h⟩ hDef
      exact absurd hpre h
    case body =>
      clear rest hKr
      intro l' pre p W hll ⟨hKX, hGv⟩ hlt
      have hqm : p % 4611686018427387904 < 4611686018427387904 := Nat.mod_lt _ (by decide)
      have hpre := hid (hKX.at (show w6.heap.size ≠ w6.heap.size + 1 by omega) K9_pre.out)
      have hrow := hid (Own.wds (Own.keptX K9_rp.out K9_places.out hKX) (fun j _ => rowOf_lt _ _ _))
      have hresA := hid (hKX.at (show w.heap.size + 1 + 1 ≠ w6.heap.size + 1 by omega) K9_res.out)
      have hlen : Hid (pre.length < 17592186044415) := (by have h1 := placesB_len Y M; have h2 := cntB_le Y M; show _ < _; omega)
      obtain ⟨G1, hG1⟩ : ∃ G, Hid (getB (rowOf (fun i => oddB Y (i + 1)) M) M ((p % 4611686018427387904 : Nat) : Int) = G) := ⟨_, rfl⟩
      obtain ⟨G2, hG2⟩ : ∃ G, Hid (getB (rowOf (fun i => oddB Y (i + 1)) M) M (((p % 4611686018427387904 : Nat) : Int) - 1) = G) := ⟨_, rfl⟩
      have hne := hid (fun (h : pre ++ [p] <+: placesB Y M) => (show G1 ≠ G2 from by
        have hm := placesB_mem (h.subset (by simp) : p ∈ placesB Y M)
        have e : p % 4611686018427387904 = p := Nat.mod_eq_of_lt (by omega)
        rw [← hG1.out, ← hG2.out, e]; exact prefix_turns_at hm.1 hm.2))
      have eP := hid (show (pre ++ [p]).map (· % 4611686018427387904) = pre.map (· % 4611686018427387904) ++ [p % 4611686018427387904] from by simp)
      have ePl := hid (show (pre.map (· % 4611686018427387904)).length = pre.length from by simp)
      have hKX' := hid hKX
      have hGv' := hid hGv
      clear hKX hGv hlt
      try dsimp only
      generalize p % 4611686018427387904 = q at *
      have hq1 : (Lit.int .i64 (q : Int)).wf = true := WalkArith.wf_i64 (by omega)
      have hq2 : (Lit.int .i64 ((q : Int) - 1)).wf = true := WalkArith.wf_i64 (by omega)
      have hw1 := hid (show IntKind.i64.wrap ((q : Int) - 1) = (q : Int) - 1 from by simp [IntKind.wrap, IntKind.bits, IntKind.signed] <;> omega)
      have hq1' := hid hq1
      have hq2' := hid hq2
      clear hq1 hq2
      have hEp := hid (show Eff (M : Int) l (rowOf (fun i => oddB Y (i + 1)) M) M from Or.inl ⟨hZf.out _, (Int.toNat_natCast M).symm⟩)
      gi_wp2_with fail
      refine wpIn_region_quiet_round (C := (fun w' => Below W.heap.size W w')) (by kernel_rfl) (by kernel_rfl) (by kernel_rfl) ((Below.refl _ _).drew) ?_
      dsimp only
      repeat (first
        | (refine wpQuiet_skip (by rfl) ?_; simp only [Act.put, List.setIfInBounds_toArray, List.set_cons_zero, List.set_cons_succ])
        | (refine wpQuiet_load 24 _ (w6.heap.size) (0) [.int .i64 (M : Int), .slice so3 l l] _ (fun wq hq => At.range (At.keptAll hpre.out hq) rfl) Tryd.underlying24 sizeBits rfl rfl rfl (by rfl) ?_; simp only [Act.put, List.setIfInBounds_toArray, List.set_cons_zero, List.set_cons_succ])
        | (refine' wpQuiet_take (by rfl) ?_ ?_
           rotate_left
           · (intro wq hq; (try dsimp only at hq); go_simp
              first
                | done
                | with_reducible rfl
                | (go_at_call 13; with_reducible refine (get_calls M q so3 l l (rowOf (fun i => oddB Y (i + 1)) M) M G1 hm'.out hq1'.out hl2 hEp hG1 _ (hrow.out.kept hq)).mono ?_; rintro e wz ⟨rfl, hb⟩; exact ⟨rfl, Below.trans hq (Below.mono hb hq.size)⟩)
                | (go_at_call 13; (rw [hw1.out]); with_reducible refine (get_calls M ((q : Int) - 1) so3 l l (rowOf (fun i => oddB Y (i + 1)) M) M G2 hm'.out hq2'.out hl2 hEp hG2 _ (hrow.out.kept hq)).mono ?_; rintro e wz ⟨rfl, hb⟩; exact ⟨rfl, Below.trans hq (Below.mono hb hq.size)⟩)
             )
           simp only [Act.put, List.setIfInBounds_toArray, List.set_cons_zero, List.set_cons_succ]))
      refine wpQuiet_nil ?_
      intro W2 hb2
      rename_i Qz Ka hKa Kb hKb
      refine hKb _ _ ?_
      clear hKb
      have hresB := hid (hresA.out.keptAll hb2)
      have cr0 := hresB.out.cell 0
      have fr0 := hresB.out.frozen 0
      simp only [List.getElem?_toArray, List.getElem?_cons_zero] at cr0
      have hKX2 := hid (hKX'.out.kept hb2)
      have hGv2 := hid (hGv'.out.kept hb2)
      have hh2 := hid (show HeldS (SafeI (w6.heap.size + 1)) w.heap.size (w9.heap.size + 1 + 1) gs W W2 from heldI_below hKX'.out.1.size hb2)
      have kf2 := hid (show KeepsFrom w9.heap.size W W2 from (keeps_below hb2).from _)
      have hW2 := hKX2.out.2.1
      clear hpre hrow hresA hG1 hG2 hKX' hGv' hw1 hq1' hq2' hEp hb2
      by_cases hGG : G1 = G2
      · have hout := hid (fun h => hne.out h hGG)
        have hbb : (G1 == G2) = true := by simpa using hGG
        clear hne hGG
        rw [hbb]
        gi_wp2
        exact ⟨kf2.out.trans ((KeepsOthers.setCell _ _ _).from _), hh2.out.trans (heldI_set W2 _ (by omega) (by omega) (by omega) (by omega) hresB.out), rfl, hout.out⟩
      · have hbb : (G1 == G2) = false := by simpa using hGG
        clear hne hGG cr0 fr0
        generalize pre.map (· % 4611686018427387904) = LL at *
        obtain ⟨v, hv, hown⟩ := hGv2.out
        have cv := hv.cell 0
        have fv := hv.frozen 0
        simp only [List.getElem?_toArray, List.getElem?_cons_zero] at cv
        have hv' := hid hv
        have hown' := hid hown
        have hownA := hid (ownI_al hown (.cells #[.int .i64 (q : Int)] 3))
        have hln := hid (show LL.length < 17592186044415 from by rw [ePl.out]; exact hlen.out)
        have hcA := hid (show (W2.alloc (.cells #[.int .i64 (q : Int)] 3)).cell? ((⟨W2.heap.size, 0, none⟩ : Addr).add 0) = some (.int .i64 (q : Int)) from (At.new W2 #[.int .i64 (q : Int)] 3).cell 0)
        clear hv hown hGv2
        rw [hbb]
        gi_wp2_with (gi_at_builtin; refine wpListIn_append_int rfl _ _ rfl w9.heap.size v (.int .i64 (q : Int)) _ _ rfl hownA.out ⟨W2.heap.size, 0, none⟩ 1 rfl hcA.out rfl hln.out (by simp; omega) ?_; intro v' w2' hown2 hg hap; obtain ⟨so', c', rfl⟩ := rowI_slice hown2; obtain ⟨a1, a2, a3, a4, a5, a6⟩ := gathI_append (n0 := w.heap.size) (Bh := w9.heap.size + 1 + 1) (g := gs) hv'.out hown'.out hW2 hpl (by omega) (by omega) (by omega) hown2 hg hap; have a4' := hid (gathI_append (n0 := w.heap.size) (Bh := w9.heap.size) (g := gs) hv'.out hown'.out hW2 hpl (by omega) hpl (by omega) hown2 hg hap).2.2.2.1; have b2 := hid a2; have b3 := hid a3; have b4 := hid a4; have b5 := hid a5; have b6 := hid a6; have d1 := a1.cell 0; have g1 := a1.frozen 0; simp only [List.getElem?_toArray, List.getElem?_cons_zero] at d1; clear a1 a2 a3 a4 a5 a6 hg hap cv fv hown2)
        refine ⟨kf2.out.trans (a4'.out.from (Nat.le_refl _)), hh2.out.trans b4.out, ⟨hKX2.out.1.trans (b5.out.mono (show w.heap.size ≤ w6.heap.size + 1 by omega)), Nat.le_trans hKX2.out.2.1 b5.out.size, fun b cs t hb h => b6.out b cs t (hKX2.out.2.2 b cs t hb h) hb h.lt⟩, ?_⟩
        rw [eP.out]
        refine ⟨_, b2.out, ?_⟩
        rw [ints_snoc, List.length_append]
        exact b3.out

theorem bitmapAlgebra_walk (n : Int) (ao : Option Addr) (k cap : Nat) (X : Nat → Nat) (hn : (Lit.int .i64 n).wf = true) (hk : k ≤ 1048576) (m : Int) (bo : Option Addr) (l cap' : Nat) (Y : Nat → Nat) (hm : (Lit.int .i64 m).wf = true) (hl : l ≤ 1048576) (hz : bo = none → l = 0 ∧ cap' = 0)
    (w : World) (hT : Tab w) (h0 : 0 < w.heap.size) (hW : Wds w ao k X) (hV : Wds w bo l Y) :
    Calls Tryd.prog 4 #[bv n ao k cap, bv m bo l cap'] w fun e w' => e = .returned (.bool true) ∧ Below w.heap.size w w' := callsIn_wide.1 (alg_in n ao k cap X hn hk m bo l cap' Y hm hl hz w hT h0 hW hV)
end Go.Proofs.YtmbkcnhkbpaagabDoor
