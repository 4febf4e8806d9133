/-
 path.formed, Formed.
-/
import Derived.Test.YtbabdhepnjacdaaDoorPyA
import Derived.Test.YtbabdhepnjacdaaDoorTrO
import Derived.Deep.RegionHeld
import Derived.BigQuiet
import Derived.Deep.RegionWith
import Derived.Test.YtbabdhepnjacdaaDoorPack1
namespace Go.Proofs.YtbabdhepnjacdaaDoor
open Go.RowKit Go.Shelf
/-- Is a step well shaped? -/
def fmS (s : Stp) : Bool :=
 if s.kind = 1 then decide (s.place = 0) && decide (badOf s.name = -1)
 else if s.kind = 2 then decide (s.name = ⟨#[]⟩) && (decide (0 ≤ s.place) && decide (s.place ≤ 999999999999999999))
 else if s.kind = 3 then decide (s.name = ⟨#[]⟩) && decide (s.place = 0) else false
set_option maxRecDepth 20000 in
/-- Are two steps the same? -/
theorem eqStp (k k' p p' : Int) (a b : ByteArray) (u : World) : (Op.equalIn 10000 53 (.agg #[.int .i64 k, .string a, .int .i64 p]) (.agg #[.int .i64 k', .string b, .int .i64 p'])).run Tryd.prog u = .ok (k == k' && (a.toList == b.toList && p == p')) u := by
 have hf : ((Tryd.prog.fieldsOf 53).toList.map fun f => (decide (f.name ≠ "_"), f.type, f.offset)) = [(true, 3, 0), (true, 9, 1), (true, 3, 2)] := by kernel_rfl
 rw [run_equalIn_struct u 9999 53 _ _ Tryd.underlying53 (by kernel_rfl)]
 generalize (Tryd.prog.fieldsOf 53).toList = fs at hf
 obtain ⟨f0, fs1, rfl, h0, hf1⟩ := List.map_eq_cons_iff.1 hf
 obtain ⟨f1, fs2, rfl, h1, hf2⟩ := List.map_eq_cons_iff.1 hf1
 obtain ⟨f2, fs3, rfl, h2, hf3⟩ := List.map_eq_cons_iff.1 hf2
 obtain rfl := List.map_eq_nil_iff.1 hf3
 simp only [Prod.mk.injEq] at h0 h1 h2
 obtain ⟨n0, t0, o0⟩ := h0
 obtain ⟨n1, t1, o1⟩ := h1
 obtain ⟨n2, t2, o2⟩ := h2
 have q0 : ∀ v0 v1 v2, (Go.part 3 #[v0, v1, v2] 0).run Tryd.prog u = .ok v0 u := fun _ _ _ => by kernel_rfl
 have q1 : ∀ v0 v1 v2, (Go.part 9 #[v0, v1, v2] 1).run Tryd.prog u = .ok v1 u := fun _ _ _ => by kernel_rfl
 have q2 : ∀ v0 v1 v2, (Go.part 3 #[v0, v1, v2] 2).run Tryd.prog u = .ok v2 u := fun _ _ _ => by kernel_rfl
 have b0 := run_equalIn_int (P := Tryd.prog) u 9998 3 .i64 .i64 k k' Tryd.underlying3
 have b1 := run_equalIn_string (P := Tryd.prog) u 9998 9 a b Tryd.underlying9
 have b2 := run_equalIn_int (P := Tryd.prog) u 9998 3 .i64 .i64 p p' Tryd.underlying3
 simp only [Nat.reduceAdd] at b0 b1 b2
 cases h0 : k == k' <;> cases h1 : a.toList == b.toList <;> cases h2 : p == p' <;> rw [h0] at b0 <;> rw [h1] at b1 <;> rw [h2] at b2 <;>
  simp [Op.eqFields, of_decide_eq_true n0, of_decide_eq_true n1, of_decide_eq_true n2, t0, o0, t1, o1, t2, o2, q0, q1, q2, Result.andThen, b0, b1, b2]
theorem sizeStp : (Tryd.prog.info? 53).map (·.size) = some 3 := by kernel_rfl
theorem ret_stp {fn : Func} {p : Tmp} {R : Ending → World → Prop} {a : Act} {w : World} {b : Nat} {cs : Array Value} (hres : fn.results = #[.cell p 53]) (hp : a.tmps.getD p undef = .pointer (some ⟨b, 0, none⟩))
  (h : At w b cs 53) (hc : cs.size = 3) (hd : a.defers = []) (hR : R (.returned (.agg cs)) w) : bodyPost Tryd.prog fn R .ret a w := by
 refine bodyPost_ret (v := .agg cs) ?_ hd hR
 have hl := run_loadVar_row (P := Tryd.prog) w b 53 53 cs (0, 0) _ h Tryd.underlying53 rfl (by rw [hc]; exact sizeStp)
 have hp' : a.tmps[p]?.getD undef = .pointer (some ⟨b, 0, none⟩) := by simpa using hp
 simp [results, hres, hp', asAddr, hl]
theorem plnB22_calls (x : ByteArray) (w : World) : Calls Tryd.prog 56 #[.string x] w fun e w' => e = .returned (.agg #[.int .i64 1, .string x, .int .i64 0]) ∧ Below w.heap.size w w' := by
 go_enter Tryd.func56, Tryd.ntmps56
 go_wp2
 refine ret_stp rfl rfl (At.new w _ _) rfl rfl ⟨rfl, by repeat (first | with_reducible exact Below.refl _ _ | with_reducible refine Below.setCell ?_ (by first | (simp; done) | (simp; omega)) _ | with_reducible refine below_drewN ?_ _ | with_reducible refine Below.alloc ?_ (by first | (simp; done) | (simp; omega)) _ | with_reducible refine Below.drew ?_)⟩
theorem plnP22_calls (x : Int) (w : World) : Calls Tryd.prog 58 #[.int .i64 x] w fun e w' => e = .returned (.agg #[.int .i64 2, .string ⟨#[]⟩, .int .i64 x]) ∧ Below w.heap.size w w' := by
 go_enter Tryd.func58, Tryd.ntmps58
 go_wp2
 refine ret_stp rfl rfl (At.new w _ _) rfl rfl ⟨rfl, by repeat (first | with_reducible exact Below.refl _ _ | with_reducible refine Below.setCell ?_ (by first | (simp; done) | (simp; omega)) _ | with_reducible refine below_drewN ?_ _ | with_reducible refine Below.alloc ?_ (by first | (simp; done) | (simp; omega)) _ | with_reducible refine Below.drew ?_)⟩
theorem plnE22_calls (w : World) : Calls Tryd.prog 59 #[.agg #[]] w fun e w' => e = .returned (.agg #[.int .i64 3, .string ⟨#[]⟩, .int .i64 0]) ∧ Below w.heap.size w w' := by
 go_enter Tryd.func59, Tryd.ntmps59
 go_wp2
 refine ret_stp rfl rfl (At.newAt (b := w.heap.size + 1) _ _ (by simp only [World.size_alloc])) rfl rfl ⟨rfl, by repeat (first | with_reducible exact Below.refl _ _ | with_reducible refine Below.setCell ?_ (by first | (simp; done) | (simp; omega)) _ | with_reducible refine below_drewN ?_ _ | with_reducible refine Below.alloc ?_ (by first | (simp; done) | (simp; omega)) _ | with_reducible refine Below.drew ?_)⟩
set_option maxRecDepth 10000 in
set_option maxHeartbeats 4000000 in
theorem formed22_calls (s : Stp) (hs : s.name.size ≤ 9223372036854775807) (w : World) (hT : TabU w) : Calls Tryd.prog 48 #[.agg #[.int .i64 s.kind, .string s.name, .int .i64 s.place]] w fun e w' => e = .returned (.bool (fmS s)) ∧ Below w.heap.size w w' := by
 obtain ⟨k, nm, pl⟩ := s
 have hof := hid (fun u => of22_calls ⟨k, nm, pl⟩ u)
 have A1 := hid (At.new w #[.int .i64 k, .string nm, .int .i64 pl] 53)
 have B1 := hid (show Below w.heap.size w (w.alloc (.cells #[.int .i64 k, .string nm, .int .i64 pl] 53)) from (Below.refl _ w).alloc (Nat.le_refl _) _)
 obtain ⟨W1, hW1⟩ : ∃ W, w.alloc (.cells #[.int .i64 k, .string nm, .int .i64 pl] 53) = W := ⟨_, rfl⟩
 rw [hW1] at A1 B1
 have c0 := A1.out.cell 0
 have c1 := A1.out.cell 1
 have c2 := A1.out.cell 2
 simp only [List.getElem?_toArray, List.getElem?_cons_zero, List.getElem?_cons_succ] at c0 c1 c2
 dsimp only at hs ⊢
 have hT1 := hid (hT.below B1.out)
 by_cases h1 : k = 1
 ·subst h1
  have hof' : Hid (∀ u, Calls Tryd.prog 50 #[.agg #[.int .i64 1, .string nm, .int .i64 pl]] u fun e w' => e = .returned (.iface 95 (.string nm)) ∧ Below u.heap.size u w') := hof
  have hval := hid (fun u h => validS_calls nm hs (decide (badOf nm = -1)) (hid rfl) u h)
  have hfm : fmS ⟨1, nm, pl⟩ = (decide (pl = 0) && decide (badOf nm = -1)) := rfl
  rw [hfm]
  have hpl := hid (fun u => plnB22_calls nm u)
  have aB := asB_B nm
  have eqs := fun u => eqStp 1 1 0 pl nm nm u
  have ee : (nm.toList == nm.toList) = true := by simp
  rw [show ((1 : Int) == 1) = true from rfl, ee, Bool.true_and, Bool.true_and] at eqs
  clear hof hfm hs hT
  generalize decide (badOf nm = -1) = V at hval ⊢
  cases hp : (0 : Int) == pl with
  | true =>
   rw [hp] at eqs
   rw [show decide (pl = 0) = true from decide_eq_true (by have := beq_iff_eq.1 hp; omega), Bool.true_and]
   go_enter Tryd.func48, Tryd.ntmps48
   go_wp2_with fail
   refine Calls.mono (hof'.out _) ?_
   rintro e w3 ⟨rfl, b3⟩
   have B3 := hid (B1.out.trans (b3.mono B1.out.size))
   have A3 := hid (A1.out.keptAll b3)
   have T3 := hid (hT1.out.below b3)
   clear b3 c0 c1 c2 hof' A1 B1 hT1 hW1
   go_wp2_with fail
   rename_i Kr hKr
   refine wp_region_held_drew (S := fun A => At A w.heap.size #[.int .i64 1, .string nm, .int .i64 pl] 53) (by kernel_rfl) A3.out.drew (fun hH => ?_)
   have B4 := hid (show Below w.heap.size w (World.drew w3) from B3.out.drew)
   have A4 := hid (show At (World.drew w3) w.heap.size #[.int .i64 1, .string nm, .int .i64 pl] 53 from A3.out.drew)
   have T4 := hid (show TabU (World.drew w3) from T3.out.below (Below.refl _ _).drew)
   clear hH A3 B3 T3
   (refine' wpAnyH_take (i := 0) rfl (by kernel_rfl) (by kernel_rfl) (by kernel_rfl) (fun _ _ _ h => h) (Or.inl ⟨by rfl, ?_⟩) (by assumption) ?_; rotate_left; (· (intro wq hq; (try dsimp only at hq); go_simp; first | done | with_reducible rfl)); simp only [Act.put, List.getElem_toArray, List.getElem_cons_zero, List.setIfInBounds_toArray, List.set_cons_zero, List.set_cons_succ])
   (refine wpAnyH_take (i := 2) (v := .agg [.int .i64 1, .string nm, .int .i64 pl].toArray) rfl (by kernel_rfl) (by kernel_rfl) (by kernel_rfl) (fun _ _ _ h => h) (yieldsIf_load_mid (by rfl) 53 _ rfl (w.heap.size) 0 rfl [.int .i64 1, .string nm, .int .i64 pl] _ (fun wq hq => hq.range rfl) Tryd.underlying53 rfl sizeStp) (by assumption) ?_; simp only [Act.put, List.getElem_toArray, List.getElem_cons_zero, List.getElem_cons_succ, List.setIfInBounds_toArray, List.set_cons_zero, List.set_cons_succ])
   refine wpAnyH_ready (rs := [1]) (by kernel_rfl) (by simp) ?_
   refine AllReadyH.cons rfl (fun K hK => ?_) ?_
   rotate_left
   ·exact AllReadyH.nil
   rw [if_pos (by rfl)]
   go_simp
   refine Calls.mono (hpl.out _) ?_
   rintro e w5 ⟨rfl, b5⟩
   have A5 := hid (A4.out.keptAll b5)
   have T5 := hid (T4.out.below b5)
   have B5 := hid (B4.out.trans (b5.mono B4.out.size))
   refine hK.out _ _ A5.out (fun hHa => ?_)
   clear hK K b5 hHa
   (refine' wpAnyH_take (i := 3) rfl (by kernel_rfl) (by kernel_rfl) (by kernel_rfl) (fun _ _ _ h => h) (Or.inl ⟨by rfl, ?_⟩) (by assumption) ?_; rotate_left; (· (intro wq hq; (try dsimp only at hq); go_simp; first | done | with_reducible rfl)); simp only [Act.put, List.getElem_toArray, List.getElem_cons_zero, List.getElem_cons_succ, List.setIfInBounds_toArray, List.set_cons_zero, List.set_cons_succ])
   (refine' wpAnyH_take (i := 4) rfl (by kernel_rfl) (by kernel_rfl) (by kernel_rfl) (fun _ _ _ h => h) (Or.inl ⟨by rfl, ?_⟩) (by assumption) ?_; rotate_left; (· (intro wq hq; (try dsimp only at hq); go_simp; first | done | with_reducible rfl)); simp only [Act.put, List.getElem_toArray, List.getElem_cons_zero, List.getElem_cons_succ, List.setIfInBounds_toArray, List.set_cons_zero, List.set_cons_succ])
   (refine' wpAnyH_take (i := 5) rfl (by kernel_rfl) (by kernel_rfl) (by kernel_rfl) (fun _ _ _ h => h) (Or.inl ⟨by rfl, ?_⟩) (by assumption) ?_; rotate_left; (· (intro wq hq; (try dsimp only at hq); go_simp; first | done | with_reducible rfl)); simp only [Act.put, List.getElem_toArray, List.getElem_cons_zero, List.getElem_cons_succ, List.setIfInBounds_toArray, List.set_cons_zero, List.set_cons_succ])
   refine wpAnyH_ready (rs := [6]) (by kernel_rfl) (by simp) ?_
   refine AllReadyH.cons rfl (fun K hK => ?_) ?_
   rotate_left
   ·exact AllReadyH.nil
   rw [if_pos (by rfl)]
   go_simp
   refine Calls.mono (hval.out _ T5.out) ?_
   rintro e w6 ⟨rfl, b6⟩
   have A6 := hid (A5.out.keptAll b6)
   have T6 := hid (T5.out.below b6)
   have B6 := hid (B5.out.trans (b6.mono B5.out.size))
   refine hK.out _ _ A6.out (fun hHa => ?_)
   clear hK K b6 hHa
   (refine' wpAnyH_take (i := 7) rfl (by kernel_rfl) (by kernel_rfl) (by kernel_rfl) (fun _ _ _ h => h) (Or.inl ⟨by rfl, ?_⟩) (by assumption) ?_; rotate_left; (· (intro wq hq; (try dsimp only at hq); go_simp; first | done | with_reducible rfl)); simp only [Act.put, List.getElem_toArray, List.getElem_cons_zero, List.getElem_cons_succ, List.setIfInBounds_toArray, List.set_cons_zero, List.set_cons_succ])
   (refine' wpAnyH_take (i := 8) rfl (by kernel_rfl) (by kernel_rfl) (by kernel_rfl) (fun _ _ _ h => h) (Or.inl ⟨by rfl, ?_⟩) (by assumption) ?_; rotate_left; (· (intro wq hq; (try dsimp only at hq); go_simp; first | done | with_reducible rfl)); simp only [Act.put, List.getElem_toArray, List.getElem_cons_zero, List.getElem_cons_succ, List.setIfInBounds_toArray, List.set_cons_zero, List.set_cons_succ])
   refine wpAnyH_done (by kernel_rfl) ?_ _
   refine hKr _ _ ?_
   go_wp2
   go_ret
   exact ⟨rfl, B6.out⟩
  | false =>
   rw [hp] at eqs
   rw [show decide (pl = 0) = false from decide_eq_false (by have := beq_eq_false_iff_ne.1 hp; omega), Bool.false_and]
   go_enter Tryd.func48, Tryd.ntmps48
   go_wp2_with fail
   refine Calls.mono (hof'.out _) ?_
   rintro e w3 ⟨rfl, b3⟩
   have B3 := hid (B1.out.trans (b3.mono B1.out.size))
   have A3 := hid (A1.out.keptAll b3)
   have T3 := hid (hT1.out.below b3)
   clear b3 c0 c1 c2 hof' A1 B1 hT1 hW1
   go_wp2_with fail
   rename_i Kr hKr
   refine wp_region_held_drew (S := fun A => At A w.heap.size #[.int .i64 1, .string nm, .int .i64 pl] 53) (by kernel_rfl) A3.out.drew (fun hH => ?_)
   have B4 := hid (show Below w.heap.size w (World.drew w3) from B3.out.drew)
   have A4 := hid (show At (World.drew w3) w.heap.size #[.int .i64 1, .string nm, .int .i64 pl] 53 from A3.out.drew)
   have T4 := hid (show TabU (World.drew w3) from T3.out.below (Below.refl _ _).drew)
   clear hH A3 B3 T3
   (refine' wpAnyH_take (i := 0) rfl (by kernel_rfl) (by kernel_rfl) (by kernel_rfl) (fun _ _ _ h => h) (Or.inl ⟨by rfl, ?_⟩) (by assumption) ?_; rotate_left; (· (intro wq hq; (try dsimp only at hq); go_simp; first | done | with_reducible rfl)); simp only [Act.put, List.getElem_toArray, List.getElem_cons_zero, List.setIfInBounds_toArray, List.set_cons_zero, List.set_cons_succ])
   (refine wpAnyH_take (i := 2) (v := .agg [.int .i64 1, .string nm, .int .i64 pl].toArray) rfl (by kernel_rfl) (by kernel_rfl) (by kernel_rfl) (fun _ _ _ h => h) (yieldsIf_load_mid (by rfl) 53 _ rfl (w.heap.size) 0 rfl [.int .i64 1, .string nm, .int .i64 pl] _ (fun wq hq => hq.range rfl) Tryd.underlying53 rfl sizeStp) (by assumption) ?_; simp only [Act.put, List.getElem_toArray, List.getElem_cons_zero, List.getElem_cons_succ, List.setIfInBounds_toArray, List.set_cons_zero, List.set_cons_succ])
   refine wpAnyH_ready (rs := [1]) (by kernel_rfl) (by simp) ?_
   refine AllReadyH.cons rfl (fun K hK => ?_) ?_
   rotate_left
   ·exact AllReadyH.nil
   rw [if_pos (by rfl)]
   go_simp
   refine Calls.mono (hpl.out _) ?_
   rintro e w5 ⟨rfl, b5⟩
   have A5 := hid (A4.out.keptAll b5)
   have T5 := hid (T4.out.below b5)
   have B5 := hid (B4.out.trans (b5.mono B4.out.size))
   refine hK.out _ _ A5.out (fun hHa => ?_)
   clear hK K b5 hHa
   (refine' wpAnyH_take (i := 3) rfl (by kernel_rfl) (by kernel_rfl) (by kernel_rfl) (fun _ _ _ h => h) (Or.inl ⟨by rfl, ?_⟩) (by assumption) ?_; rotate_left; (· (intro wq hq; (try dsimp only at hq); go_simp; first | done | with_reducible rfl)); simp only [Act.put, List.getElem_toArray, List.getElem_cons_zero, List.getElem_cons_succ, List.setIfInBounds_toArray, List.set_cons_zero, List.set_cons_succ])
   (refine' wpAnyH_take (i := 4) rfl (by kernel_rfl) (by kernel_rfl) (by kernel_rfl) (fun _ _ _ h => h) (Or.inl ⟨by rfl, ?_⟩) (by assumption) ?_; rotate_left; (· (intro wq hq; (try dsimp only at hq); go_simp; first | done | with_reducible rfl)); simp only [Act.put, List.getElem_toArray, List.getElem_cons_zero, List.getElem_cons_succ, List.setIfInBounds_toArray, List.set_cons_zero, List.set_cons_succ])
   (refine wpAnyH_take (i := 5) (v := undef) rfl (by kernel_rfl) (by kernel_rfl) (by kernel_rfl) (fun _ _ _ h => h) (Or.inr ⟨by rfl, rfl⟩) (by assumption) ?_; simp only [Act.put, List.getElem_toArray, List.getElem_cons_zero, List.getElem_cons_succ, List.setIfInBounds_toArray, List.set_cons_zero, List.set_cons_succ])
   (refine wpAnyH_take (i := 6) (v := undef) rfl (by kernel_rfl) (by kernel_rfl) (by kernel_rfl) (fun _ _ _ h => h) (Or.inr ⟨by rfl, rfl⟩) (by assumption) ?_; simp only [Act.put, List.getElem_toArray, List.getElem_cons_zero, List.getElem_cons_succ, List.setIfInBounds_toArray, List.set_cons_zero, List.set_cons_succ])
   (refine' wpAnyH_take (i := 7) rfl (by kernel_rfl) (by kernel_rfl) (by kernel_rfl) (fun _ _ _ h => h) (Or.inl ⟨by rfl, ?_⟩) (by assumption) ?_; rotate_left; (· (intro wq hq; (try dsimp only at hq); go_simp; first | done | with_reducible rfl)); simp only [Act.put, List.getElem_toArray, List.getElem_cons_zero, List.getElem_cons_succ, List.setIfInBounds_toArray, List.set_cons_zero, List.set_cons_succ])
   (refine' wpAnyH_take (i := 8) rfl (by kernel_rfl) (by kernel_rfl) (by kernel_rfl) (fun _ _ _ h => h) (Or.inl ⟨by rfl, ?_⟩) (by assumption) ?_; rotate_left; (· (intro wq hq; (try dsimp only at hq); go_simp; first | done | with_reducible rfl)); simp only [Act.put, List.getElem_toArray, List.getElem_cons_zero, List.getElem_cons_succ, List.setIfInBounds_toArray, List.set_cons_zero, List.set_cons_succ])
   refine wpAnyH_done (by kernel_rfl) ?_ _
   refine hKr _ _ ?_
   go_wp2
   go_ret
   exact ⟨rfl, B5.out⟩
 ·by_cases h2 : k = 2
  ·subst h2
   have hof' : Hid (∀ u, Calls Tryd.prog 50 #[.agg #[.int .i64 2, .string nm, .int .i64 pl]] u fun e w' => e = .returned (.iface 98 (.int .i64 pl)) ∧ Below u.heap.size u w') := hof
   have hfm : fmS ⟨2, nm, pl⟩ = (decide (nm = ⟨#[]⟩) && (decide (0 ≤ pl) && decide (pl ≤ 999999999999999999))) := rfl
   rw [hfm]
   have hpl := hid (fun u => plnP22_calls pl u)
   have aB := asP_B pl
   have aP := asP_P pl
   have eqs := fun u => eqStp 2 2 pl pl ⟨#[]⟩ nm u
   rw [show ((2 : Int) == 2) = true from rfl, Bool.true_and, eq_str, show (pl == pl) = true by simp, Bool.and_true, show decide ((⟨#[]⟩ : ByteArray) = nm) = decide (nm = ⟨#[]⟩) from decide_eq_decide.2 eq_comm] at eqs
   clear hof hfm hs hT h1
   generalize decide (nm = ⟨#[]⟩) = E at eqs ⊢
   cases E with
   | false =>
    rw [Bool.false_and]
    go_enter Tryd.func48, Tryd.ntmps48
    go_wp2_with fail
    refine Calls.mono (hof'.out _) ?_
    rintro e w3 ⟨rfl, b3⟩
    have B3 := hid (B1.out.trans (b3.mono B1.out.size))
    have A3 := hid (A1.out.keptAll b3)
    have T3 := hid (hT1.out.below b3)
    clear b3 c0 c1 c2 hof' A1 B1 hT1 hW1
    go_wp2_with fail
    rename_i Kr hKr
    refine wp_region_held_drew (S := fun A => At A w.heap.size #[.int .i64 2, .string nm, .int .i64 pl] 53) (by kernel_rfl) A3.out.drew (fun hH => ?_)
    have B4 := hid (show Below w.heap.size w (World.drew w3) from B3.out.drew)
    have A4 := hid (show At (World.drew w3) w.heap.size #[.int .i64 2, .string nm, .int .i64 pl] 53 from A3.out.drew)
    have T4 := hid (show TabU (World.drew w3) from T3.out.below (Below.refl _ _).drew)
    clear hH A3 B3 T3
    (refine' wpAnyH_take (i := 0) rfl (by kernel_rfl) (by kernel_rfl) (by kernel_rfl) (fun _ _ _ h => h) (Or.inl ⟨by rfl, ?_⟩) (by assumption) ?_; rotate_left; (· (intro wq hq; (try dsimp only at hq); go_simp; first | done | with_reducible rfl)); simp only [Act.put, List.getElem_toArray, List.getElem_cons_zero, List.setIfInBounds_toArray, List.set_cons_zero, List.set_cons_succ])
    (refine wpAnyH_take (i := 2) (v := .agg [.int .i64 2, .string nm, .int .i64 pl].toArray) rfl (by kernel_rfl) (by kernel_rfl) (by kernel_rfl) (fun _ _ _ h => h) (yieldsIf_load_mid (by rfl) 53 _ rfl (w.heap.size) 0 rfl [.int .i64 2, .string nm, .int .i64 pl] _ (fun wq hq => hq.range rfl) Tryd.underlying53 rfl sizeStp) (by assumption) ?_; simp only [Act.put, List.getElem_toArray, List.getElem_cons_zero, List.getElem_cons_succ, List.setIfInBounds_toArray, List.set_cons_zero, List.set_cons_succ])
    refine wpAnyH_ready (rs := [1]) (by kernel_rfl) (by simp) ?_
    refine AllReadyH.cons rfl (fun K hK => ?_) ?_
    rotate_left
    ·exact AllReadyH.nil
    rw [if_pos (by rfl)]
    go_simp
    refine Calls.mono (hpl.out _) ?_
    rintro e w5 ⟨rfl, b5⟩
    have A5 := hid (A4.out.keptAll b5)
    have T5 := hid (T4.out.below b5)
    have B5 := hid (B4.out.trans (b5.mono B4.out.size))
    refine hK.out _ _ A5.out (fun hHa => ?_)
    clear hK K b5 hHa
    (refine' wpAnyH_take (i := 3) rfl (by kernel_rfl) (by kernel_rfl) (by kernel_rfl) (fun _ _ _ h => h) (Or.inl ⟨by rfl, ?_⟩) (by assumption) ?_; rotate_left; (· (intro wq hq; (try dsimp only at hq); go_simp; first | done | with_reducible rfl)); simp only [Act.put, List.getElem_toArray, List.getElem_cons_zero, List.getElem_cons_succ, List.setIfInBounds_toArray, List.set_cons_zero, List.set_cons_succ])
    (refine' wpAnyH_take (i := 4) rfl (by kernel_rfl) (by kernel_rfl) (by kernel_rfl) (fun _ _ _ h => h) (Or.inl ⟨by rfl, ?_⟩) (by assumption) ?_; rotate_left; (· (intro wq hq; (try dsimp only at hq); go_simp; first | done | with_reducible rfl)); simp only [Act.put, List.getElem_toArray, List.getElem_cons_zero, List.getElem_cons_succ, List.setIfInBounds_toArray, List.set_cons_zero, List.set_cons_succ])
    (refine wpAnyH_take (i := 5) (v := undef) rfl (by kernel_rfl) (by kernel_rfl) (by kernel_rfl) (fun _ _ _ h => h) (Or.inr ⟨by rfl, rfl⟩) (by assumption) ?_; simp only [Act.put, List.getElem_toArray, List.getElem_cons_zero, List.getElem_cons_succ, List.setIfInBounds_toArray, List.set_cons_zero, List.set_cons_succ])
    (refine wpAnyH_take (i := 6) (v := undef) rfl (by kernel_rfl) (by kernel_rfl) (by kernel_rfl) (fun _ _ _ h => h) (Or.inr ⟨by rfl, rfl⟩) (by assumption) ?_; simp only [Act.put, List.getElem_toArray, List.getElem_cons_zero, List.getElem_cons_succ, List.setIfInBounds_toArray, List.set_cons_zero, List.set_cons_succ])
    (refine' wpAnyH_take (i := 7) rfl (by kernel_rfl) (by kernel_rfl) (by kernel_rfl) (fun _ _ _ h => h) (Or.inl ⟨by rfl, ?_⟩) (by assumption) ?_; rotate_left; (· (intro wq hq; (try dsimp only at hq); go_simp; first | done | with_reducible rfl)); simp only [Act.put, List.getElem_toArray, List.getElem_cons_zero, List.getElem_cons_succ, List.setIfInBounds_toArray, List.set_cons_zero, List.set_cons_succ])
    (refine' wpAnyH_take (i := 8) rfl (by kernel_rfl) (by kernel_rfl) (by kernel_rfl) (fun _ _ _ h => h) (Or.inl ⟨by rfl, ?_⟩) (by assumption) ?_; rotate_left; (· (intro wq hq; (try dsimp only at hq); go_simp; first | done | with_reducible rfl)); simp only [Act.put, List.getElem_toArray, List.getElem_cons_zero, List.getElem_cons_succ, List.setIfInBounds_toArray, List.set_cons_zero, List.set_cons_succ])
    (refine wpAnyH_take (i := 9) (v := undef) rfl (by kernel_rfl) (by kernel_rfl) (by kernel_rfl) (fun _ _ _ h => h) (Or.inr ⟨by rfl, rfl⟩) (by assumption) ?_; simp only [Act.put, List.getElem_toArray, List.getElem_cons_zero, List.getElem_cons_succ, List.setIfInBounds_toArray, List.set_cons_zero, List.set_cons_succ])
    (refine wpAnyH_take (i := 10) (v := undef) rfl (by kernel_rfl) (by kernel_rfl) (by kernel_rfl) (fun _ _ _ h => h) (Or.inr ⟨by rfl, rfl⟩) (by assumption) ?_; simp only [Act.put, List.getElem_toArray, List.getElem_cons_zero, List.getElem_cons_succ, List.setIfInBounds_toArray, List.set_cons_zero, List.set_cons_succ])
    (refine' wpAnyH_take (i := 11) rfl (by kernel_rfl) (by kernel_rfl) (by kernel_rfl) (fun _ _ _ h => h) (Or.inl ⟨by rfl, ?_⟩) (by assumption) ?_; rotate_left; (· (intro wq hq; (try dsimp only at hq); go_simp; first | done | with_reducible rfl)); simp only [Act.put, List.getElem_toArray, List.getElem_cons_zero, List.getElem_cons_succ, List.setIfInBounds_toArray, List.set_cons_zero, List.set_cons_succ])
    (refine' wpAnyH_take (i := 12) rfl (by kernel_rfl) (by kernel_rfl) (by kernel_rfl) (fun _ _ _ h => h) (Or.inl ⟨by rfl, ?_⟩) (by assumption) ?_; rotate_left; (· (intro wq hq; (try dsimp only at hq); go_simp; first | done | with_reducible rfl)); simp only [Act.put, List.getElem_toArray, List.getElem_cons_zero, List.getElem_cons_succ, List.setIfInBounds_toArray, List.set_cons_zero, List.set_cons_succ])
    refine wpAnyH_done (by kernel_rfl) ?_ _
    refine hKr _ _ ?_
    go_wp2
    go_ret
    exact ⟨rfl, B5.out⟩
   | true =>
    rw [Bool.true_and]
    cases hp : decide ((0 : Int) ≤ pl) with
    | false =>
     rw [Bool.false_and]
     go_enter Tryd.func48, Tryd.ntmps48
     go_wp2_with fail
     refine Calls.mono (hof'.out _) ?_
     rintro e w3 ⟨rfl, b3⟩
     have B3 := hid (B1.out.trans (b3.mono B1.out.size))
     have A3 := hid (A1.out.keptAll b3)
     have T3 := hid (hT1.out.below b3)
     clear b3 c0 c1 c2 hof' A1 B1 hT1 hW1
     go_wp2_with fail
     rename_i Kr hKr
     refine wp_region_held_drew (S := fun A => At A w.heap.size #[.int .i64 2, .string nm, .int .i64 pl] 53) (by kernel_rfl) A3.out.drew (fun hH => ?_)
     have B4 := hid (show Below w.heap.size w (World.drew w3) from B3.out.drew)
     have A4 := hid (show At (World.drew w3) w.heap.size #[.int .i64 2, .string nm, .int .i64 pl] 53 from A3.out.drew)
     have T4 := hid (show TabU (World.drew w3) from T3.out.below (Below.refl _ _).drew)
     clear hH A3 B3 T3
     (refine' wpAnyH_take (i := 0) rfl (by kernel_rfl) (by kernel_rfl) (by kernel_rfl) (fun _ _ _ h => h) (Or.inl ⟨by rfl, ?_⟩) (by assumption) ?_; rotate_left; (· (intro wq hq; (try dsimp only at hq); go_simp; first | done | with_reducible rfl)); simp only [Act.put, List.getElem_toArray, List.getElem_cons_zero, List.setIfInBounds_toArray, List.set_cons_zero, List.set_cons_succ])
     (refine wpAnyH_take (i := 2) (v := .agg [.int .i64 2, .string nm, .int .i64 pl].toArray) rfl (by kernel_rfl) (by kernel_rfl) (by kernel_rfl) (fun _ _ _ h => h) (yieldsIf_load_mid (by rfl) 53 _ rfl (w.heap.size) 0 rfl [.int .i64 2, .string nm, .int .i64 pl] _ (fun wq hq => hq.range rfl) Tryd.underlying53 rfl sizeStp) (by assumption) ?_; simp only [Act.put, List.getElem_toArray, List.getElem_cons_zero, List.getElem_cons_succ, List.setIfInBounds_toArray, List.set_cons_zero, List.set_cons_succ])
     refine wpAnyH_ready (rs := [1]) (by kernel_rfl) (by simp) ?_
     refine AllReadyH.cons rfl (fun K hK => ?_) ?_
     rotate_left
     ·exact AllReadyH.nil
     rw [if_pos (by rfl)]
     go_simp
     refine Calls.mono (hpl.out _) ?_
     rintro e w5 ⟨rfl, b5⟩
     have A5 := hid (A4.out.keptAll b5)
     have T5 := hid (T4.out.below b5)
     have B5 := hid (B4.out.trans (b5.mono B4.out.size))
     refine hK.out _ _ A5.out (fun hHa => ?_)
     clear hK K b5 hHa
     (refine' wpAnyH_take (i := 3) rfl (by kernel_rfl) (by kernel_rfl) (by kernel_rfl) (fun _ _ _ h => h) (Or.inl ⟨by rfl, ?_⟩) (by assumption) ?_; rotate_left; (· (intro wq hq; (try dsimp only at hq); go_simp; first | done | with_reducible rfl)); simp only [Act.put, List.getElem_toArray, List.getElem_cons_zero, List.getElem_cons_succ, List.setIfInBounds_toArray, List.set_cons_zero, List.set_cons_succ])
     (refine' wpAnyH_take (i := 4) rfl (by kernel_rfl) (by kernel_rfl) (by kernel_rfl) (fun _ _ _ h => h) (Or.inl ⟨by rfl, ?_⟩) (by assumption) ?_; rotate_left; (· (intro wq hq; (try dsimp only at hq); go_simp; first | done | with_reducible rfl)); simp only [Act.put, List.getElem_toArray, List.getElem_cons_zero, List.getElem_cons_succ, List.setIfInBounds_toArray, List.set_cons_zero, List.set_cons_succ])
     (refine' wpAnyH_take (i := 5) rfl (by kernel_rfl) (by kernel_rfl) (by kernel_rfl) (fun _ _ _ h => h) (Or.inl ⟨by rfl, ?_⟩) (by assumption) ?_; rotate_left; (· (intro wq hq; (try dsimp only at hq); go_simp; first | done | with_reducible rfl)); simp only [Act.put, List.getElem_toArray, List.getElem_cons_zero, List.getElem_cons_succ, List.setIfInBounds_toArray, List.set_cons_zero, List.set_cons_succ])
     (refine' wpAnyH_take (i := 6) rfl (by kernel_rfl) (by kernel_rfl) (by kernel_rfl) (fun _ _ _ h => h) (Or.inl ⟨by rfl, ?_⟩) (by assumption) ?_; rotate_left; (· (intro wq hq; (try dsimp only at hq); go_simp; first | done | with_reducible rfl)); simp only [Act.put, List.getElem_toArray, List.getElem_cons_zero, List.getElem_cons_succ, List.setIfInBounds_toArray, List.set_cons_zero, List.set_cons_succ])
     (refine' wpAnyH_take (i := 7) rfl (by kernel_rfl) (by kernel_rfl) (by kernel_rfl) (fun _ _ _ h => h) (Or.inl ⟨by rfl, ?_⟩) (by assumption) ?_; rotate_left; (· (intro wq hq; (try dsimp only at hq); go_simp; first | done | with_reducible rfl)); simp only [Act.put, List.getElem_toArray, List.getElem_cons_zero, List.getElem_cons_succ, List.setIfInBounds_toArray, List.set_cons_zero, List.set_cons_succ])
     (refine' wpAnyH_take (i := 8) rfl (by kernel_rfl) (by kernel_rfl) (by kernel_rfl) (fun _ _ _ h => h) (Or.inl ⟨by rfl, ?_⟩) (by assumption) ?_; rotate_left; (· (intro wq hq; (try dsimp only at hq); go_simp; first | done | with_reducible rfl)); simp only [Act.put, List.getElem_toArray, List.getElem_cons_zero, List.getElem_cons_succ, List.setIfInBounds_toArray, List.set_cons_zero, List.set_cons_succ])
     (refine wpAnyH_take (i := 9) (v := undef) rfl (by kernel_rfl) (by kernel_rfl) (by kernel_rfl) (fun _ _ _ h => h) (Or.inr ⟨by rfl, rfl⟩) (by assumption) ?_; simp only [Act.put, List.getElem_toArray, List.getElem_cons_zero, List.getElem_cons_succ, List.setIfInBounds_toArray, List.set_cons_zero, List.set_cons_succ])
     (refine wpAnyH_take (i := 10) (v := undef) rfl (by kernel_rfl) (by kernel_rfl) (by kernel_rfl) (fun _ _ _ h => h) (Or.inr ⟨by rfl, rfl⟩) (by assumption) ?_; simp only [Act.put, List.getElem_toArray, List.getElem_cons_zero, List.getElem_cons_succ, List.setIfInBounds_toArray, List.set_cons_zero, List.set_cons_succ])
     (refine' wpAnyH_take (i := 11) rfl (by kernel_rfl) (by kernel_rfl) (by kernel_rfl) (fun _ _ _ h => h) (Or.inl ⟨by rfl, ?_⟩) (by assumption) ?_; rotate_left; (· (intro wq hq; (try dsimp only at hq); go_simp; first | done | with_reducible rfl)); simp only [Act.put, List.getElem_toArray, List.getElem_cons_zero, List.getElem_cons_succ, List.setIfInBounds_toArray, List.set_cons_zero, List.set_cons_succ])
     (refine' wpAnyH_take (i := 12) rfl (by kernel_rfl) (by kernel_rfl) (by kernel_rfl) (fun _ _ _ h => h) (Or.inl ⟨by rfl, ?_⟩) (by assumption) ?_; rotate_left; (· (intro wq hq; (try dsimp only at hq); go_simp; first | done | with_reducible rfl)); simp only [Act.put, List.getElem_toArray, List.getElem_cons_zero, List.getElem_cons_succ, List.setIfInBounds_toArray, List.set_cons_zero, List.set_cons_succ])
     refine wpAnyH_done (by kernel_rfl) ?_ _
     refine hKr _ _ ?_
     go_wp2
     go_ret
     exact ⟨rfl, B5.out⟩
    | true =>
     rw [Bool.true_and]
     cases hq : decide (pl ≤ (999999999999999999 : Int)) with
     | false =>
      go_enter Tryd.func48, Tryd.ntmps48
      go_wp2_with fail
      refine Calls.mono (hof'.out _) ?_
      rintro e w3 ⟨rfl, b3⟩
      have B3 := hid (B1.out.trans (b3.mono B1.out.size))
      have A3 := hid (A1.out.keptAll b3)
      have T3 := hid (hT1.out.below b3)
      clear b3 c0 c1 c2 hof' A1 B1 hT1 hW1
      go_wp2_with fail
      rename_i Kr hKr
      refine wp_region_held_drew (S := fun A => At A w.heap.size #[.int .i64 2, .string nm, .int .i64 pl] 53) (by kernel_rfl) A3.out.drew (fun hH => ?_)
      have B4 := hid (show Below w.heap.size w (World.drew w3) from B3.out.drew)
      have A4 := hid (show At (World.drew w3) w.heap.size #[.int .i64 2, .string nm, .int .i64 pl] 53 from A3.out.drew)
      have T4 := hid (show TabU (World.drew w3) from T3.out.below (Below.refl _ _).drew)
      clear hH A3 B3 T3
      (refine' wpAnyH_take (i := 0) rfl (by kernel_rfl) (by kernel_rfl) (by kernel_rfl) (fun _ _ _ h => h) (Or.inl ⟨by rfl, ?_⟩) (by assumption) ?_; rotate_left; (· (intro wq hq; (try dsimp only at hq); go_simp; first | done | with_reducible rfl)); simp only [Act.put, List.getElem_toArray, List.getElem_cons_zero, List.setIfInBounds_toArray, List.set_cons_zero, List.set_cons_succ])
      (refine wpAnyH_take (i := 2) (v := .agg [.int .i64 2, .string nm, .int .i64 pl].toArray) rfl (by kernel_rfl) (by kernel_rfl) (by kernel_rfl) (fun _ _ _ h => h) (yieldsIf_load_mid (by rfl) 53 _ rfl (w.heap.size) 0 rfl [.int .i64 2, .string nm, .int .i64 pl] _ (fun wq hq => hq.range rfl) Tryd.underlying53 rfl sizeStp) (by assumption) ?_; simp only [Act.put, List.getElem_toArray, List.getElem_cons_zero, List.getElem_cons_succ, List.setIfInBounds_toArray, List.set_cons_zero, List.set_cons_succ])
      refine wpAnyH_ready (rs := [1]) (by kernel_rfl) (by simp) ?_
      refine AllReadyH.cons rfl (fun K hK => ?_) ?_
      rotate_left
      ·exact AllReadyH.nil
      rw [if_pos (by rfl)]
      go_simp
      refine Calls.mono (hpl.out _) ?_
      rintro e w5 ⟨rfl, b5⟩
      have A5 := hid (A4.out.keptAll b5)
      have T5 := hid (T4.out.below b5)
      have B5 := hid (B4.out.trans (b5.mono B4.out.size))
      refine hK.out _ _ A5.out (fun hHa => ?_)
      clear hK K b5 hHa
      (refine' wpAnyH_take (i := 3) rfl (by kernel_rfl) (by kernel_rfl) (by kernel_rfl) (fun _ _ _ h => h) (Or.inl ⟨by rfl, ?_⟩) (by assumption) ?_; rotate_left; (· (intro wq hq; (try dsimp only at hq); go_simp; first | done | with_reducible rfl)); simp only [Act.put, List.getElem_toArray, List.getElem_cons_zero, List.getElem_cons_succ, List.setIfInBounds_toArray, List.set_cons_zero, List.set_cons_succ])
      (refine' wpAnyH_take (i := 4) rfl (by kernel_rfl) (by kernel_rfl) (by kernel_rfl) (fun _ _ _ h => h) (Or.inl ⟨by rfl, ?_⟩) (by assumption) ?_; rotate_left; (· (intro wq hq; (try dsimp only at hq); go_simp; first | done | with_reducible rfl)); simp only [Act.put, List.getElem_toArray, List.getElem_cons_zero, List.getElem_cons_succ, List.setIfInBounds_toArray, List.set_cons_zero, List.set_cons_succ])
      (refine' wpAnyH_take (i := 5) rfl (by kernel_rfl) (by kernel_rfl) (by kernel_rfl) (fun _ _ _ h => h) (Or.inl ⟨by rfl, ?_⟩) (by assumption) ?_; rotate_left; (· (intro wq hq; (try dsimp only at hq); go_simp; first | done | with_reducible rfl)); simp only [Act.put, List.getElem_toArray, List.getElem_cons_zero, List.getElem_cons_succ, List.setIfInBounds_toArray, List.set_cons_zero, List.set_cons_succ])
      (refine' wpAnyH_take (i := 6) rfl (by kernel_rfl) (by kernel_rfl) (by kernel_rfl) (fun _ _ _ h => h) (Or.inl ⟨by rfl, ?_⟩) (by assumption) ?_; rotate_left; (· (intro wq hq; (try dsimp only at hq); go_simp; first | done | with_reducible rfl)); simp only [Act.put, List.getElem_toArray, List.getElem_cons_zero, List.getElem_cons_succ, List.setIfInBounds_toArray, List.set_cons_zero, List.set_cons_succ])
      (refine' wpAnyH_take (i := 7) rfl (by kernel_rfl) (by kernel_rfl) (by kernel_rfl) (fun _ _ _ h => h) (Or.inl ⟨by rfl, ?_⟩) (by assumption) ?_; rotate_left; (· (intro wq hq; (try dsimp only at hq); go_simp; first | done | with_reducible rfl)); simp only [Act.put, List.getElem_toArray, List.getElem_cons_zero, List.getElem_cons_succ, List.setIfInBounds_toArray, List.set_cons_zero, List.set_cons_succ])
      (refine' wpAnyH_take (i := 8) rfl (by kernel_rfl) (by kernel_rfl) (by kernel_rfl) (fun _ _ _ h => h) (Or.inl ⟨by rfl, ?_⟩) (by assumption) ?_; rotate_left; (· (intro wq hq; (try dsimp only at hq); go_simp; first | done | with_reducible rfl)); simp only [Act.put, List.getElem_toArray, List.getElem_cons_zero, List.getElem_cons_succ, List.setIfInBounds_toArray, List.set_cons_zero, List.set_cons_succ])
      (refine' wpAnyH_take (i := 9) rfl (by kernel_rfl) (by kernel_rfl) (by kernel_rfl) (fun _ _ _ h => h) (Or.inl ⟨by rfl, ?_⟩) (by assumption) ?_; rotate_left; (· (intro wq hq; (try dsimp only at hq); go_simp; first | done | with_reducible rfl)); simp only [Act.put, List.getElem_toArray, List.getElem_cons_zero, List.getElem_cons_succ, List.setIfInBounds_toArray, List.set_cons_zero, List.set_cons_succ])
      (refine' wpAnyH_take (i := 10) rfl (by kernel_rfl) (by kernel_rfl) (by kernel_rfl) (fun _ _ _ h => h) (Or.inl ⟨by rfl, ?_⟩) (by assumption) ?_; rotate_left; (· (intro wq hq; (try dsimp only at hq); go_simp; first | done | with_reducible rfl)); simp only [Act.put, List.getElem_toArray, List.getElem_cons_zero, List.getElem_cons_succ, List.setIfInBounds_toArray, List.set_cons_zero, List.set_cons_succ])
      (refine' wpAnyH_take (i := 11) rfl (by kernel_rfl) (by kernel_rfl) (by kernel_rfl) (fun _ _ _ h => h) (Or.inl ⟨by rfl, ?_⟩) (by assumption) ?_; rotate_left; (· (intro wq hq; (try dsimp only at hq); go_simp; first | done | with_reducible rfl)); simp only [Act.put, List.getElem_toArray, List.getElem_cons_zero, List.getElem_cons_succ, List.setIfInBounds_toArray, List.set_cons_zero, List.set_cons_succ])
      (refine' wpAnyH_take (i := 12) rfl (by kernel_rfl) (by kernel_rfl) (by kernel_rfl) (fun _ _ _ h => h) (Or.inl ⟨by rfl, ?_⟩) (by assumption) ?_; rotate_left; (· (intro wq hq; (try dsimp only at hq); go_simp; first | done | with_reducible rfl)); simp only [Act.put, List.getElem_toArray, List.getElem_cons_zero, List.getElem_cons_succ, List.setIfInBounds_toArray, List.set_cons_zero, List.set_cons_succ])
      refine wpAnyH_done (by kernel_rfl) ?_ _
      refine hKr _ _ ?_
      go_wp2
      go_ret
      exact ⟨rfl, B5.out⟩
     | true =>
      go_enter Tryd.func48, Tryd.ntmps48
      go_wp2_with fail
      refine Calls.mono (hof'.out _) ?_
      rintro e w3 ⟨rfl, b3⟩
      have B3 := hid (B1.out.trans (b3.mono B1.out.size))
      have A3 := hid (A1.out.keptAll b3)
      have T3 := hid (hT1.out.below b3)
      clear b3 c0 c1 c2 hof' A1 B1 hT1 hW1
      go_wp2_with fail
      rename_i Kr hKr
      refine wp_region_held_drew (S := fun A => At A w.heap.size #[.int .i64 2, .string nm, .int .i64 pl] 53) (by kernel_rfl) A3.out.drew (fun hH => ?_)
      have B4 := hid (show Below w.heap.size w (World.drew w3) from B3.out.drew)
      have A4 := hid (show At (World.drew w3) w.heap.size #[.int .i64 2, .string nm, .int .i64 pl] 53 from A3.out.drew)
      have T4 := hid (show TabU (World.drew w3) from T3.out.below (Below.refl _ _).drew)
      clear hH A3 B3 T3
      (refine' wpAnyH_take (i := 0) rfl (by kernel_rfl) (by kernel_rfl) (by kernel_rfl) (fun _ _ _ h => h) (Or.inl ⟨by rfl, ?_⟩) (by assumption) ?_; rotate_left; (· (intro wq hq; (try dsimp only at hq); go_simp; first | done | with_reducible rfl)); simp only [Act.put, List.getElem_toArray, List.getElem_cons_zero, List.setIfInBounds_toArray, List.set_cons_zero, List.set_cons_succ])
      (refine wpAnyH_take (i := 2) (v := .agg [.int .i64 2, .string nm, .int .i64 pl].toArray) rfl (by kernel_rfl) (by kernel_rfl) (by kernel_rfl) (fun _ _ _ h => h) (yieldsIf_load_mid (by rfl) 53 _ rfl (w.heap.size) 0 rfl [.int .i64 2, .string nm, .int .i64 pl] _ (fun wq hq => hq.range rfl) Tryd.underlying53 rfl sizeStp) (by assumption) ?_; simp only [Act.put, List.getElem_toArray, List.getElem_cons_zero, List.getElem_cons_succ, List.setIfInBounds_toArray, List.set_cons_zero, List.set_cons_succ])
      refine wpAnyH_ready (rs := [1]) (by kernel_rfl) (by simp) ?_
      refine AllReadyH.cons rfl (fun K hK => ?_) ?_
      rotate_left
      ·exact AllReadyH.nil
      rw [if_pos (by rfl)]
      go_simp
      refine Calls.mono (hpl.out _) ?_
      rintro e w5 ⟨rfl, b5⟩
      have A5 := hid (A4.out.keptAll b5)
      have T5 := hid (T4.out.below b5)
      have B5 := hid (B4.out.trans (b5.mono B4.out.size))
      refine hK.out _ _ A5.out (fun hHa => ?_)
      clear hK K b5 hHa
      (refine' wpAnyH_take (i := 3) rfl (by kernel_rfl) (by kernel_rfl) (by kernel_rfl) (fun _ _ _ h => h) (Or.inl ⟨by rfl, ?_⟩) (by assumption) ?_; rotate_left; (· (intro wq hq; (try dsimp only at hq); go_simp; first | done | with_reducible rfl)); simp only [Act.put, List.getElem_toArray, List.getElem_cons_zero, List.getElem_cons_succ, List.setIfInBounds_toArray, List.set_cons_zero, List.set_cons_succ])
      (refine' wpAnyH_take (i := 4) rfl (by kernel_rfl) (by kernel_rfl) (by kernel_rfl) (fun _ _ _ h => h) (Or.inl ⟨by rfl, ?_⟩) (by assumption) ?_; rotate_left; (· (intro wq hq; (try dsimp only at hq); go_simp; first | done | with_reducible rfl)); simp only [Act.put, List.getElem_toArray, List.getElem_cons_zero, List.getElem_cons_succ, List.setIfInBounds_toArray, List.set_cons_zero, List.set_cons_succ])
      (refine' wpAnyH_take (i := 5) rfl (by kernel_rfl) (by kernel_rfl) (by kernel_rfl) (fun _ _ _ h => h) (Or.inl ⟨by rfl, ?_⟩) (by assumption) ?_; rotate_left; (· (intro wq hq; (try dsimp only at hq); go_simp; first | done | with_reducible rfl)); simp only [Act.put, List.getElem_toArray, List.getElem_cons_zero, List.getElem_cons_succ, List.setIfInBounds_toArray, List.set_cons_zero, List.set_cons_succ])
      (refine' wpAnyH_take (i := 6) rfl (by kernel_rfl) (by kernel_rfl) (by kernel_rfl) (fun _ _ _ h => h) (Or.inl ⟨by rfl, ?_⟩) (by assumption) ?_; rotate_left; (· (intro wq hq; (try dsimp only at hq); go_simp; first | done | with_reducible rfl)); simp only [Act.put, List.getElem_toArray, List.getElem_cons_zero, List.getElem_cons_succ, List.setIfInBounds_toArray, List.set_cons_zero, List.set_cons_succ])
      (refine' wpAnyH_take (i := 7) rfl (by kernel_rfl) (by kernel_rfl) (by kernel_rfl) (fun _ _ _ h => h) (Or.inl ⟨by rfl, ?_⟩) (by assumption) ?_; rotate_left; (· (intro wq hq; (try dsimp only at hq); go_simp; first | done | with_reducible rfl)); simp only [Act.put, List.getElem_toArray, List.getElem_cons_zero, List.getElem_cons_succ, List.setIfInBounds_toArray, List.set_cons_zero, List.set_cons_succ])
      (refine' wpAnyH_take (i := 8) rfl (by kernel_rfl) (by kernel_rfl) (by kernel_rfl) (fun _ _ _ h => h) (Or.inl ⟨by rfl, ?_⟩) (by assumption) ?_; rotate_left; (· (intro wq hq; (try dsimp only at hq); go_simp; first | done | with_reducible rfl)); simp only [Act.put, List.getElem_toArray, List.getElem_cons_zero, List.getElem_cons_succ, List.setIfInBounds_toArray, List.set_cons_zero, List.set_cons_succ])
      (refine' wpAnyH_take (i := 9) rfl (by kernel_rfl) (by kernel_rfl) (by kernel_rfl) (fun _ _ _ h => h) (Or.inl ⟨by rfl, ?_⟩) (by assumption) ?_; rotate_left; (· (intro wq hq; (try dsimp only at hq); go_simp; first | done | with_reducible rfl)); simp only [Act.put, List.getElem_toArray, List.getElem_cons_zero, List.getElem_cons_succ, List.setIfInBounds_toArray, List.set_cons_zero, List.set_cons_succ])
      (refine' wpAnyH_take (i := 10) rfl (by kernel_rfl) (by kernel_rfl) (by kernel_rfl) (fun _ _ _ h => h) (Or.inl ⟨by rfl, ?_⟩) (by assumption) ?_; rotate_left; (· (intro wq hq; (try dsimp only at hq); go_simp; first | done | with_reducible rfl)); simp only [Act.put, List.getElem_toArray, List.getElem_cons_zero, List.getElem_cons_succ, List.setIfInBounds_toArray, List.set_cons_zero, List.set_cons_succ])
      (refine' wpAnyH_take (i := 11) rfl (by kernel_rfl) (by kernel_rfl) (by kernel_rfl) (fun _ _ _ h => h) (Or.inl ⟨by rfl, ?_⟩) (by assumption) ?_; rotate_left; (· (intro wq hq; (try dsimp only at hq); go_simp; first | done | with_reducible rfl)); simp only [Act.put, List.getElem_toArray, List.getElem_cons_zero, List.getElem_cons_succ, List.setIfInBounds_toArray, List.set_cons_zero, List.set_cons_succ])
      (refine' wpAnyH_take (i := 12) rfl (by kernel_rfl) (by kernel_rfl) (by kernel_rfl) (fun _ _ _ h => h) (Or.inl ⟨by rfl, ?_⟩) (by assumption) ?_; rotate_left; (· (intro wq hq; (try dsimp only at hq); go_simp; first | done | with_reducible rfl)); simp only [Act.put, List.getElem_toArray, List.getElem_cons_zero, List.getElem_cons_succ, List.setIfInBounds_toArray, List.set_cons_zero, List.set_cons_succ])
      refine wpAnyH_done (by kernel_rfl) ?_ _
      refine hKr _ _ ?_
      go_wp2
      go_ret
      exact ⟨rfl, B5.out⟩
  ·by_cases h3 : k = 3
   ·subst h3
    have hof' : Hid (∀ u, Calls Tryd.prog 50 #[.agg #[.int .i64 3, .string nm, .int .i64 pl]] u fun e w' => e = .returned (.iface 99 (.agg #[])) ∧ Below u.heap.size u w') := hof
    have hfm : fmS ⟨3, nm, pl⟩ = (decide (nm = ⟨#[]⟩) && decide (pl = 0)) := rfl
    rw [hfm]
    have hpl := hid (fun u => plnE22_calls u)
    have aB := asE_B
    have aP := asE_P
    have aE := asE_E
    have eqs := fun u => eqStp 3 3 0 pl ⟨#[]⟩ nm u
    have e0 : ((0 : Int) == pl) = decide (pl = 0) := by
     by_cases h : pl = 0
     ·subst h; rfl
     ·rw [decide_eq_false h]; exact beq_eq_false_iff_ne.2 (by omega)
    rw [show ((3 : Int) == 3) = true from rfl, Bool.true_and, eq_str, show decide ((⟨#[]⟩ : ByteArray) = nm) = decide (nm = ⟨#[]⟩) from decide_eq_decide.2 eq_comm, e0] at eqs
    clear hof hfm hs hT h1 h2 e0
    generalize (decide (nm = ⟨#[]⟩) && decide (pl = 0)) = E at eqs ⊢
    go_enter Tryd.func48, Tryd.ntmps48
    go_wp2_with fail
    refine Calls.mono (hof'.out _) ?_
    rintro e w3 ⟨rfl, b3⟩
    have B3 := hid (B1.out.trans (b3.mono B1.out.size))
    have A3 := hid (A1.out.keptAll b3)
    have T3 := hid (hT1.out.below b3)
    clear b3 c0 c1 c2 hof' A1 B1 hT1 hW1
    go_wp2_with fail
    have B3 := hid (show Below w.heap.size w (w3.alloc (.cells #[] 99)) from B3.out.alloc B3.out.size _)
    have A3 := hid (A3.out.alloc (.cells #[] 99))
    have T3 := hid (T3.out.below (show Below w3.heap.size w3 (w3.alloc (.cells #[] 99)) from (Below.refl _ _).alloc (Nat.le_refl _) _))
    generalize w3.alloc (.cells #[] 99) = w3a at *
    rename_i Kr hKr
    refine wp_region_held_drew (S := fun A => At A w.heap.size #[.int .i64 3, .string nm, .int .i64 pl] 53) (by kernel_rfl) A3.out.drew (fun hH => ?_)
    have B4 := hid (show Below w.heap.size w (World.drew w3a) from B3.out.drew)
    have A4 := hid (show At (World.drew w3a) w.heap.size #[.int .i64 3, .string nm, .int .i64 pl] 53 from A3.out.drew)
    have T4 := hid (show TabU (World.drew w3a) from T3.out.below (Below.refl _ _).drew)
    clear hH A3 B3 T3
    (refine' wpAnyH_take (i := 0) rfl (by kernel_rfl) (by kernel_rfl) (by kernel_rfl) (fun _ _ _ h => h) (Or.inl ⟨by rfl, ?_⟩) (by assumption) ?_; rotate_left; (· (intro wq hq; (try dsimp only at hq); go_simp; first | done | with_reducible rfl)); simp only [Act.put, List.getElem_toArray, List.getElem_cons_zero, List.setIfInBounds_toArray, List.set_cons_zero, List.set_cons_succ])
    (refine wpAnyH_take (i := 2) (v := .agg [.int .i64 3, .string nm, .int .i64 pl].toArray) rfl (by kernel_rfl) (by kernel_rfl) (by kernel_rfl) (fun _ _ _ h => h) (yieldsIf_load_mid (by rfl) 53 _ rfl (w.heap.size) 0 rfl [.int .i64 3, .string nm, .int .i64 pl] _ (fun wq hq => hq.range rfl) Tryd.underlying53 rfl sizeStp) (by assumption) ?_; simp only [Act.put, List.getElem_toArray, List.getElem_cons_zero, List.getElem_cons_succ, List.setIfInBounds_toArray, List.set_cons_zero, List.set_cons_succ])
    refine wpAnyH_ready (rs := [1]) (by kernel_rfl) (by simp) ?_
    refine AllReadyH.cons rfl (fun K hK => ?_) ?_
    rotate_left
    ·exact AllReadyH.nil
    rw [if_pos (by rfl)]
    go_simp
    refine Calls.mono (hpl.out _) ?_
    rintro e w5 ⟨rfl, b5⟩
    have A5 := hid (A4.out.keptAll b5)
    have T5 := hid (T4.out.below b5)
    have B5 := hid (B4.out.trans (b5.mono B4.out.size))
    refine hK.out _ _ A5.out (fun hHa => ?_)
    clear hK K b5 hHa
    (refine' wpAnyH_take (i := 3) rfl (by kernel_rfl) (by kernel_rfl) (by kernel_rfl) (fun _ _ _ h => h) (Or.inl ⟨by rfl, ?_⟩) (by assumption) ?_; rotate_left; (· (intro wq hq; (try dsimp only at hq); go_simp; first | done | with_reducible rfl)); simp only [Act.put, List.getElem_toArray, List.getElem_cons_zero, List.getElem_cons_succ, List.setIfInBounds_toArray, List.set_cons_zero, List.set_cons_succ])
    (refine' wpAnyH_take (i := 4) rfl (by kernel_rfl) (by kernel_rfl) (by kernel_rfl) (fun _ _ _ h => h) (Or.inl ⟨by rfl, ?_⟩) (by assumption) ?_; rotate_left; (· (intro wq hq; (try dsimp only at hq); go_simp; first | done | with_reducible rfl)); simp only [Act.put, List.getElem_toArray, List.getElem_cons_zero, List.getElem_cons_succ, List.setIfInBounds_toArray, List.set_cons_zero, List.set_cons_succ])
    refine wpAnyH_done (by kernel_rfl) ?_ _
    refine hKr _ _ ?_
    go_wp2
    go_ret
    exact ⟨rfl, B5.out⟩
   ·have hfm : fmS ⟨k, nm, pl⟩ = false := by unfold fmS; rw [if_neg h1, if_neg h2, if_neg h3]
    have hof' : Hid (∀ u, Calls Tryd.prog 50 #[.agg #[.int .i64 k, .string nm, .int .i64 pl]] u fun e w' => e = .returned .nilIface ∧ Below u.heap.size u w') := hid (fun u => by
     have h := hof.out u
     rw [show ifV ⟨k, nm, pl⟩ = .nilIface by unfold ifV; rw [if_neg h1, if_neg h2, if_neg h3]] at h
     exact h)
    rw [hfm]
    have aB := asN_B
    have aP := asN_P
    have aE := asN_E
    clear hof hfm hs hT h1 h2 h3
    go_enter Tryd.func48, Tryd.ntmps48
    go_wp2_with fail
    refine Calls.mono (hof'.out _) ?_
    rintro e w3 ⟨rfl, b3⟩
    have B3 := hid (B1.out.trans (b3.mono B1.out.size))
    clear b3 c0 c1 c2 hof' A1 B1 hT1 hW1
    go_wp2
    go_ret
    exact ⟨rfl, B3.out⟩
end Go.Proofs.YtbabdhepnjacdaaDoor
