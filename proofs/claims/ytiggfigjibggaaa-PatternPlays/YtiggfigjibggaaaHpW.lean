/-
  Statements of layer 25: learns; what a script of Learns leaves.
-/
import Derived.Test.YtiggfigjibggaaaHpV
namespace Go.Proofs.Ytiggfigjibggaaa
open Go.RowKit Go.Shelf Go.Maps

/-- What a script of Learns leaves: how many have come, and the entries. -/
inductive LrnL (room : Nat) : List OpV → Nat → List Ent → Prop
  | nil : LrnL room [] 0 []
  | no {ops : List OpV} {c : Nat} {L : List Ent} (o : OpV) (h : LrnL room ops c L) (hp : o.p < 0) : LrnL room (ops ++ [o]) c L
  | yes {ops : List OpV} {c c' : Nat} {L L' : List Ent} (o : OpV) (p : Nat) (h : LrnL room ops c L) (hp : o.p = (p : Int)) (hl : Lrn room c L o.r o.n p c' L') : LrnL room (ops ++ [o]) c' L'
theorem lrn_came {room c c' : Nat} {L L' : List Ent} {r n : ByteArray} {p : Nat} (h : Lrn room c L r n p c' L') : c' ≤ c + 1 := by
  rcases h with ⟨A, e, B, -, -, -, -, h⟩ | ⟨-, ⟨-, -, h⟩ | ⟨-, L1, -, -, h⟩⟩ <;> omega
theorem LrnL.came {room : Nat} {ops : List OpV} {c : Nat} {L : List Ent} (h : LrnL room ops c L) : c ≤ ops.length := by
  induction h with
  | nil => exact Nat.le_refl _
  | no o h hp ih => rw [List.length_append]; simp; omega
  | yes o p h hp hl ih =>
    have := lrn_came hl
    rw [List.length_append]
    simp
    omega
theorem ops_at {w : World} {ao : Option Addr} {l : List OpV} (h : OpsAt w ao l) {i : Nat} {x : OpV} (hi : l[i]? = some x) : ∃ b off, ao = some ⟨b, off, none⟩ ∧ (w.cell? ⟨b, off + i * 5, none⟩ = some (.int .i64 x.on) ∧ w.cell? ⟨b, off + i * 5 + 1, none⟩ = some (.int .i64 x.kind) ∧ w.cell? ⟨b, off + i * 5 + 2, none⟩ = some (.string x.r) ∧ w.cell? ⟨b, off + i * 5 + 3, none⟩ = some (.string x.n) ∧ w.cell? ⟨b, off + i * 5 + 4, none⟩ = some (.int .i64 x.p)) := by
  obtain ⟨-, b, off, h1, -, h3⟩ := h i x hi
  exact ⟨b, off, h1, h3 0 _ rfl, h3 1 _ rfl, h3 2 _ rfl, h3 3 _ rfl, h3 4 _ rfl⟩
theorem take_snocO {α : Type} {l : List α} {i : Nat} {x : α} (h : l[i]? = some x) : l.take (i + 1) = l.take i ++ [x] := by rw [List.take_add_one, h]; rfl
set_option maxRecDepth 10000 in
set_option maxHeartbeats 8000000 in
theorem learns_calls (room : Nat) (hr : room ≤ 4096) (ops : List OpV) (N : Nat) (hN : Hid (ops.length = N)) (hN2 : (N : Int) ≤ 140737488355328) (ao : Option Addr) (cap : Nat) (w : World) (hops : Hid (OpsAt w ao ops)) :
    Calls Try.prog 18 #[.int .i64 (room : Int), .slice ao N cap] w fun e w' => ∃ pb came L, e = .returned (ptB pb) ∧ Hid (LrnL room ops came L) ∧ Hid (PatM w' pb (fun q => w.heap.size ≤ q) room came L) ∧ Hid (Below w.heap.size w w') := by
  have hnew := hid (new_calls room hr [] 0 (hid rfl) (by omega) none 0 w (hid (lns_none _ _)))
  go_enter Try.func18, Try.ntmps18
  go_wp2_with fail
  refine Calls.mono hnew.out ?_
  rintro e w1 ⟨B1, ⟨-, pb, rfl, P1⟩ | ⟨hbad, -⟩⟩
  rotate_left
  · exact absurd ⟨fun x hx => by simp at hx, List.Pairwise.nil⟩ hbad.out
  clear hnew
  go_wp2_with fail
  go_loopw [7] (fun ii wr => ∃ (i came : Nat) (L : List Ent), i ≤ N ∧ ii = .int .i64 (i : Int) ∧ Hid (LrnL room (ops.take i) came L) ∧ Hid (PatM wr pb (fun q => w.heap.size ≤ q) room came L) ∧ Hid (Below w.heap.size w wr)) (fun ii _ => N - (intOf ii).toNat)
  case atStart => exact ⟨0, 0, [], Nat.zero_le _, rfl, hid .nil, P1, B1⟩
  case round =>
    clear P1 B1
    obtain ⟨i, came, L, hi, rfl, hL, hP, hB⟩ := hrel
    by_cases hlt : i < N
    · have hlti : (i : Int) < (N : Int) := by omega
      have e1 : decide ((i : Int) < (N : Int)) = true := by simp; omega
      have hi' := hid (show i + 1 ≤ N by omega)
      obtain ⟨x, hx⟩ : ∃ x, Hid (ops[i]? = some x) := ⟨ops[i]'(by rw [hN.out]; exact hlt), List.getElem?_eq_getElem _⟩
      have hcm : came < 4611686018427387904 := by
        have := hL.out.came
        rw [List.length_take] at this
        omega
      have hxo := hid (hops.out i x hx.out).1
      obtain ⟨b, o, rfl, -⟩ := ops_at hops.out hx.out
      have hSu := hid (fun (u : World) (hu : Below w.heap.size w u) => (show u.cell? ⟨b, o + i * 5 + 2, none⟩ = some (.string x.r) ∧ u.cell? ⟨b, o + i * 5 + 3, none⟩ = some (.string x.n) ∧ u.cell? ⟨b, o + i * 5 + 4, none⟩ = some (.int .i64 x.p) from by
        obtain ⟨b', o', h1, -, -, h2, h3, h4⟩ := ops_at (hops.out.kept hu) hx.out
        cases h1
        exact ⟨h2, h3, h4⟩))
      have ad : (⟨b, o, none⟩ : Addr).add (i * 5) = ⟨b, o + i * 5, none⟩ := by by_cases h : i * 5 = 0 <;> simp [Addr.add, h]
      have htk := hid (take_snocO hx.out)
      obtain ⟨on, kd, r, n, p⟩ := x
      dsimp only at *
      by_cases hp : p < 0
      · have hle := hid (fun (u : World) => learn_no pb r n p hp u)
        have hL' := hid (show LrnL room (ops.take (i + 1)) came L by rw [htk.out]; exact .no _ hL.out hp)
        clear hL
        go_wp2_with fail
        rename_i Kr hKr
        refine wp_region_held_drew (S := fun u => (u.cell? ⟨b, o + i * 5 + 2, none⟩ = some (.string r) ∧ u.cell? ⟨b, o + i * 5 + 3, none⟩ = some (.string n) ∧ u.cell? ⟨b, o + i * 5 + 4, none⟩ = some (.int .i64 p))) (by kernel_rfl) (hSu.out _ hB.out.drew) (fun hH => ?_)
        (refine' wpAnyH_take (i := 0) rfl (by kernel_rfl) (by kernel_rfl) (by kernel_rfl) (fun _ _ _ h => h) (Or.inl ⟨by rfl, ?_⟩) (by assumption) ?_; rotate_left; (· (intro wq hq; (try dsimp only at hq); go_simp; first | done | with_reducible rfl)); simp only [Act.put, List.getElem_toArray, List.getElem_cons_zero, List.setIfInBounds_toArray, List.set_cons_zero, List.set_cons_succ])
        (refine' wpAnyH_take (i := 1) rfl (by kernel_rfl) (by kernel_rfl) (by kernel_rfl) (fun _ _ _ h => h) (Or.inl ⟨by rfl, ?_⟩) (by assumption) ?_; rotate_left; (· (intro wq hq; (try dsimp only at hq); go_simp; first | done | with_reducible rfl)); simp only [Act.put, List.getElem_toArray, List.getElem_cons_zero, List.getElem_cons_succ, List.setIfInBounds_toArray, List.set_cons_zero, List.set_cons_succ])
        (refine' wpAnyH_take (i := 2) rfl (by kernel_rfl) (by kernel_rfl) (by kernel_rfl) (fun _ _ _ h => h) (Or.inl ⟨by rfl, ?_⟩) (by assumption) ?_; rotate_left; (· (intro wq hq; (try dsimp only at hq); go_simp; first | done | with_reducible rfl)); simp only [Act.put, List.getElem_toArray, List.getElem_cons_zero, List.getElem_cons_succ, List.setIfInBounds_toArray, List.set_cons_zero, List.set_cons_succ])
        (refine' wpAnyH_take (i := 3) rfl (by kernel_rfl) (by kernel_rfl) (by kernel_rfl) (fun _ _ _ h => h) (Or.inl ⟨by rfl, ?_⟩) (by assumption) ?_; rotate_left; (· (intro wq hq; (try dsimp only at hq); go_simp; first | done | with_reducible rfl)); simp only [Act.put, List.getElem_toArray, List.getElem_cons_zero, List.getElem_cons_succ, List.setIfInBounds_toArray, List.set_cons_zero, List.set_cons_succ])
        (refine' wpAnyH_take (i := 4) rfl (by kernel_rfl) (by kernel_rfl) (by kernel_rfl) (fun _ _ _ h => h) (Or.inl ⟨by rfl, ?_⟩) (by assumption) ?_; rotate_left; (· (intro wq hq; (try dsimp only at hq); go_simp; first | done | with_reducible rfl)); simp only [Act.put, List.getElem_toArray, List.getElem_cons_zero, List.getElem_cons_succ, List.setIfInBounds_toArray, List.set_cons_zero, List.set_cons_succ])
        (refine' wpAnyH_take (i := 5) rfl (by kernel_rfl) (by kernel_rfl) (by kernel_rfl) (fun _ _ _ h => h) (Or.inl ⟨by rfl, ?_⟩) (by assumption) ?_; rotate_left; (· (intro wq hq; (try dsimp only at hq); go_simp; first | done | with_reducible rfl)); simp only [Act.put, List.getElem_toArray, List.getElem_cons_zero, List.getElem_cons_succ, List.setIfInBounds_toArray, List.set_cons_zero, List.set_cons_succ])
        (refine' wpAnyH_take (i := 6) rfl (by kernel_rfl) (by kernel_rfl) (by kernel_rfl) (fun _ _ _ h => h) (Or.inl ⟨by rfl, ?_⟩) (by assumption) ?_; rotate_left; (· (intro wq hq; (try dsimp only at hq); go_simp; first | done | with_reducible rfl)); simp only [Act.put, List.getElem_toArray, List.getElem_cons_zero, List.getElem_cons_succ, List.setIfInBounds_toArray, List.set_cons_zero, List.set_cons_succ])
        (refine' wpAnyH_take (i := 7) rfl (by kernel_rfl) (by kernel_rfl) (by kernel_rfl) (fun _ _ _ h => h) (Or.inl ⟨by rfl, ?_⟩) (by assumption) ?_; rotate_left; (· (intro wq hq; (try dsimp only at hq); go_simp; first | done | with_reducible rfl)); simp only [Act.put, List.getElem_toArray, List.getElem_cons_zero, List.getElem_cons_succ, List.setIfInBounds_toArray, List.set_cons_zero, List.set_cons_succ])
        (refine' wpAnyH_take (i := 8) rfl (by kernel_rfl) (by kernel_rfl) (by kernel_rfl) (fun _ _ _ h => h) (Or.inl ⟨by rfl, ?_⟩) (by assumption) ?_; rotate_left; (· (intro wq hq; (try dsimp only at hq); go_simp; first | done | with_reducible rfl)); simp only [Act.put, List.getElem_toArray, List.getElem_cons_zero, List.getElem_cons_succ, List.setIfInBounds_toArray, List.set_cons_zero, List.set_cons_succ])
        (refine' wpAnyH_take (i := 9) rfl (by kernel_rfl) (by kernel_rfl) (by kernel_rfl) (fun _ _ _ h => h) (Or.inl ⟨by rfl, ?_⟩) (by assumption) ?_; rotate_left; (· (intro wq hq; (try dsimp only at hq); go_simp; first | done | with_reducible rfl)); simp only [Act.put, List.getElem_toArray, List.getElem_cons_zero, List.getElem_cons_succ, List.setIfInBounds_toArray, List.set_cons_zero, List.set_cons_succ])
        (refine' wpAnyH_take (i := 10) rfl (by kernel_rfl) (by kernel_rfl) (by kernel_rfl) (fun _ _ _ h => h) (Or.inl ⟨by rfl, ?_⟩) (by assumption) ?_; rotate_left; (· (intro wq hq; (try dsimp only at hq); go_simp; first | done | with_reducible rfl)); simp only [Act.put, List.getElem_toArray, List.getElem_cons_zero, List.getElem_cons_succ, List.setIfInBounds_toArray, List.set_cons_zero, List.set_cons_succ])
        (refine' wpAnyH_take (i := 11) rfl (by kernel_rfl) (by kernel_rfl) (by kernel_rfl) (fun _ _ _ h => h) (Or.inl ⟨by rfl, ?_⟩) (by assumption) ?_; rotate_left; (· (intro wq hq; (try dsimp only at hq); go_simp; first | done | with_reducible rfl)); simp only [Act.put, List.getElem_toArray, List.getElem_cons_zero, List.getElem_cons_succ, List.setIfInBounds_toArray, List.set_cons_zero, List.set_cons_succ])
        (refine' wpAnyH_take (i := 12) rfl (by kernel_rfl) (by kernel_rfl) (by kernel_rfl) (fun _ _ _ h => h) (Or.inl ⟨by rfl, ?_⟩) (by assumption) ?_; rotate_left; (· (intro wq hq; (try dsimp only at hq); go_simp; first | done | with_reducible rfl)); simp only [Act.put, List.getElem_toArray, List.getElem_cons_zero, List.getElem_cons_succ, List.setIfInBounds_toArray, List.set_cons_zero, List.set_cons_succ])
        (refine' wpAnyH_take (i := 13) rfl (by kernel_rfl) (by kernel_rfl) (by kernel_rfl) (fun _ _ _ h => h) (Or.inl ⟨by rfl, ?_⟩) (by assumption) ?_; rotate_left; (· (intro wq hq; (try dsimp only at hq); go_simp; first | done | with_reducible rfl)); simp only [Act.put, List.getElem_toArray, List.getElem_cons_zero, List.getElem_cons_succ, List.setIfInBounds_toArray, List.set_cons_zero, List.set_cons_succ])
        (refine' wpAnyH_take (i := 14) rfl (by kernel_rfl) (by kernel_rfl) (by kernel_rfl) (fun _ _ _ h => h) (Or.inl ⟨by rfl, ?_⟩) (by assumption) ?_; rotate_left; (· (intro wq hq; (try dsimp only at hq); go_simp; first | done | with_reducible rfl)); simp only [Act.put, List.getElem_toArray, List.getElem_cons_zero, List.getElem_cons_succ, List.setIfInBounds_toArray, List.set_cons_zero, List.set_cons_succ])
        (refine' wpAnyH_take (i := 15) rfl (by kernel_rfl) (by kernel_rfl) (by kernel_rfl) (fun _ _ _ h => h) (Or.inl ⟨by rfl, ?_⟩) (by assumption) ?_; rotate_left; (· (intro wq hq; (try dsimp only at hq); go_simp; first | done | with_reducible rfl)); simp only [Act.put, List.getElem_toArray, List.getElem_cons_zero, List.getElem_cons_succ, List.setIfInBounds_toArray, List.set_cons_zero, List.set_cons_succ])
        refine wpAnyH_ready (rs := [16]) (by kernel_rfl) (by simp) ?_
        refine AllReadyH.cons rfl (fun K hK => ?_) ?_
        rotate_left
        · exact AllReadyH.nil
        rw [if_pos (by rfl)]
        go_simp
        refine Calls.mono (hle.out _) ?_
        rintro e w2 ⟨rfl, rfl⟩
        refine hK _ _ hH (fun hH2 => ?_)
        clear hK K
        refine wpAnyH_done (by kernel_rfl) ?_ _
        refine hKr _ _ ?_
        have hP2 := hid (hP.out.keptB (w' := wr.drew) (below_drewN _ _ 1))
        have hB2 := hid hB.out.drew
        clear hP hB hle hSu hH hH2
        go_wp2
        go_roundw
        case rel => exact ⟨i + 1, came, L, hi'.out, by simp, hL', hP2, hB2⟩
        case measure => simp [intOf]; have := hi'.out; omega
      · obtain ⟨pn, rfl⟩ : ∃ k : Nat, p = (k : Int) := ⟨p.toNat, by omega⟩
        have hle := hid (learn_calls pb (fun q => w.heap.size ≤ q) room came L hcm r n hxo.out.1 pn (by have := hxo.out.2.2.1; dsimp only at this; omega) wr.drew (hP.out.keptB (w' := wr.drew) (below_drewN _ _ 1)))
        go_wp2_with fail
        rename_i Kr hKr
        refine wp_region_held_drew (S := fun u => (u.cell? ⟨b, o + i * 5 + 2, none⟩ = some (.string r) ∧ u.cell? ⟨b, o + i * 5 + 3, none⟩ = some (.string n) ∧ u.cell? ⟨b, o + i * 5 + 4, none⟩ = some (.int .i64 (pn : Int)))) (by kernel_rfl) (hSu.out _ hB.out.drew) (fun hH => ?_)
        (refine' wpAnyH_take (i := 0) rfl (by kernel_rfl) (by kernel_rfl) (by kernel_rfl) (fun _ _ _ h => h) (Or.inl ⟨by rfl, ?_⟩) (by assumption) ?_; rotate_left; (· (intro wq hq; (try dsimp only at hq); go_simp; first | done | with_reducible rfl)); simp only [Act.put, List.getElem_toArray, List.getElem_cons_zero, List.setIfInBounds_toArray, List.set_cons_zero, List.set_cons_succ])
        (refine' wpAnyH_take (i := 1) rfl (by kernel_rfl) (by kernel_rfl) (by kernel_rfl) (fun _ _ _ h => h) (Or.inl ⟨by rfl, ?_⟩) (by assumption) ?_; rotate_left; (· (intro wq hq; (try dsimp only at hq); go_simp; first | done | with_reducible rfl)); simp only [Act.put, List.getElem_toArray, List.getElem_cons_zero, List.getElem_cons_succ, List.setIfInBounds_toArray, List.set_cons_zero, List.set_cons_succ])
        (refine' wpAnyH_take (i := 2) rfl (by kernel_rfl) (by kernel_rfl) (by kernel_rfl) (fun _ _ _ h => h) (Or.inl ⟨by rfl, ?_⟩) (by assumption) ?_; rotate_left; (· (intro wq hq; (try dsimp only at hq); go_simp; first | done | with_reducible rfl)); simp only [Act.put, List.getElem_toArray, List.getElem_cons_zero, List.getElem_cons_succ, List.setIfInBounds_toArray, List.set_cons_zero, List.set_cons_succ])
        (refine' wpAnyH_take (i := 3) rfl (by kernel_rfl) (by kernel_rfl) (by kernel_rfl) (fun _ _ _ h => h) (Or.inl ⟨by rfl, ?_⟩) (by assumption) ?_; rotate_left; (· (intro wq hq; (try dsimp only at hq); go_simp; first | done | with_reducible rfl)); simp only [Act.put, List.getElem_toArray, List.getElem_cons_zero, List.getElem_cons_succ, List.setIfInBounds_toArray, List.set_cons_zero, List.set_cons_succ])
        (refine' wpAnyH_take (i := 4) rfl (by kernel_rfl) (by kernel_rfl) (by kernel_rfl) (fun _ _ _ h => h) (Or.inl ⟨by rfl, ?_⟩) (by assumption) ?_; rotate_left; (· (intro wq hq; (try dsimp only at hq); go_simp; first | done | with_reducible rfl)); simp only [Act.put, List.getElem_toArray, List.getElem_cons_zero, List.getElem_cons_succ, List.setIfInBounds_toArray, List.set_cons_zero, List.set_cons_succ])
        (refine' wpAnyH_take (i := 5) rfl (by kernel_rfl) (by kernel_rfl) (by kernel_rfl) (fun _ _ _ h => h) (Or.inl ⟨by rfl, ?_⟩) (by assumption) ?_; rotate_left; (· (intro wq hq; (try dsimp only at hq); go_simp; first | done | with_reducible rfl)); simp only [Act.put, List.getElem_toArray, List.getElem_cons_zero, List.getElem_cons_succ, List.setIfInBounds_toArray, List.set_cons_zero, List.set_cons_succ])
        (refine' wpAnyH_take (i := 6) rfl (by kernel_rfl) (by kernel_rfl) (by kernel_rfl) (fun _ _ _ h => h) (Or.inl ⟨by rfl, ?_⟩) (by assumption) ?_; rotate_left; (· (intro wq hq; (try dsimp only at hq); go_simp; first | done | with_reducible rfl)); simp only [Act.put, List.getElem_toArray, List.getElem_cons_zero, List.getElem_cons_succ, List.setIfInBounds_toArray, List.set_cons_zero, List.set_cons_succ])
        (refine' wpAnyH_take (i := 7) rfl (by kernel_rfl) (by kernel_rfl) (by kernel_rfl) (fun _ _ _ h => h) (Or.inl ⟨by rfl, ?_⟩) (by assumption) ?_; rotate_left; (· (intro wq hq; (try dsimp only at hq); go_simp; first | done | with_reducible rfl)); simp only [Act.put, List.getElem_toArray, List.getElem_cons_zero, List.getElem_cons_succ, List.setIfInBounds_toArray, List.set_cons_zero, List.set_cons_succ])
        (refine' wpAnyH_take (i := 8) rfl (by kernel_rfl) (by kernel_rfl) (by kernel_rfl) (fun _ _ _ h => h) (Or.inl ⟨by rfl, ?_⟩) (by assumption) ?_; rotate_left; (· (intro wq hq; (try dsimp only at hq); go_simp; first | done | with_reducible rfl)); simp only [Act.put, List.getElem_toArray, List.getElem_cons_zero, List.getElem_cons_succ, List.setIfInBounds_toArray, List.set_cons_zero, List.set_cons_succ])
        (refine' wpAnyH_take (i := 9) rfl (by kernel_rfl) (by kernel_rfl) (by kernel_rfl) (fun _ _ _ h => h) (Or.inl ⟨by rfl, ?_⟩) (by assumption) ?_; rotate_left; (· (intro wq hq; (try dsimp only at hq); go_simp; first | done | with_reducible rfl)); simp only [Act.put, List.getElem_toArray, List.getElem_cons_zero, List.getElem_cons_succ, List.setIfInBounds_toArray, List.set_cons_zero, List.set_cons_succ])
        (refine' wpAnyH_take (i := 10) rfl (by kernel_rfl) (by kernel_rfl) (by kernel_rfl) (fun _ _ _ h => h) (Or.inl ⟨by rfl, ?_⟩) (by assumption) ?_; rotate_left; (· (intro wq hq; (try dsimp only at hq); go_simp; first | done | with_reducible rfl)); simp only [Act.put, List.getElem_toArray, List.getElem_cons_zero, List.getElem_cons_succ, List.setIfInBounds_toArray, List.set_cons_zero, List.set_cons_succ])
        (refine' wpAnyH_take (i := 11) rfl (by kernel_rfl) (by kernel_rfl) (by kernel_rfl) (fun _ _ _ h => h) (Or.inl ⟨by rfl, ?_⟩) (by assumption) ?_; rotate_left; (· (intro wq hq; (try dsimp only at hq); go_simp; first | done | with_reducible rfl)); simp only [Act.put, List.getElem_toArray, List.getElem_cons_zero, List.getElem_cons_succ, List.setIfInBounds_toArray, List.set_cons_zero, List.set_cons_succ])
        (refine' wpAnyH_take (i := 12) rfl (by kernel_rfl) (by kernel_rfl) (by kernel_rfl) (fun _ _ _ h => h) (Or.inl ⟨by rfl, ?_⟩) (by assumption) ?_; rotate_left; (· (intro wq hq; (try dsimp only at hq); go_simp; first | done | with_reducible rfl)); simp only [Act.put, List.getElem_toArray, List.getElem_cons_zero, List.getElem_cons_succ, List.setIfInBounds_toArray, List.set_cons_zero, List.set_cons_succ])
        (refine' wpAnyH_take (i := 13) rfl (by kernel_rfl) (by kernel_rfl) (by kernel_rfl) (fun _ _ _ h => h) (Or.inl ⟨by rfl, ?_⟩) (by assumption) ?_; rotate_left; (· (intro wq hq; (try dsimp only at hq); go_simp; first | done | with_reducible rfl)); simp only [Act.put, List.getElem_toArray, List.getElem_cons_zero, List.getElem_cons_succ, List.setIfInBounds_toArray, List.set_cons_zero, List.set_cons_succ])
        (refine' wpAnyH_take (i := 14) rfl (by kernel_rfl) (by kernel_rfl) (by kernel_rfl) (fun _ _ _ h => h) (Or.inl ⟨by rfl, ?_⟩) (by assumption) ?_; rotate_left; (· (intro wq hq; (try dsimp only at hq); go_simp; first | done | with_reducible rfl)); simp only [Act.put, List.getElem_toArray, List.getElem_cons_zero, List.getElem_cons_succ, List.setIfInBounds_toArray, List.set_cons_zero, List.set_cons_succ])
        (refine' wpAnyH_take (i := 15) rfl (by kernel_rfl) (by kernel_rfl) (by kernel_rfl) (fun _ _ _ h => h) (Or.inl ⟨by rfl, ?_⟩) (by assumption) ?_; rotate_left; (· (intro wq hq; (try dsimp only at hq); go_simp; first | done | with_reducible rfl)); simp only [Act.put, List.getElem_toArray, List.getElem_cons_zero, List.getElem_cons_succ, List.setIfInBounds_toArray, List.set_cons_zero, List.set_cons_succ])
        refine wpAnyH_ready (rs := [16]) (by kernel_rfl) (by simp) ?_
        refine AllReadyH.cons rfl (fun K hK => ?_) ?_
        rotate_left
        · exact AllReadyH.nil
        rw [if_pos (by rfl)]
        go_simp
        refine Calls.mono hle.out ?_
        rintro e w2 ⟨rfl, c', L', hl', hP', hlap⟩
        have hB2 := hid (show Below w.heap.size w w2 from hB.out.drew.trans (hlap.out.below hB.out.size (fun q h => h)))
        have hP2 := hid (hP'.out.own hB.out.size)
        have hL' := hid (show LrnL room (ops.take (i + 1)) c' L' by rw [htk.out]; exact .yes _ pn hL.out rfl hl'.out)
        refine hK _ _ (hSu.out _ hB2.out) (fun hH2 => ?_)
        clear hK K
        refine wpAnyH_done (by kernel_rfl) ?_ _
        refine hKr _ _ ?_
        clear hP hB hle hSu hH hH2 hP' hL hl' hlap
        go_wp2
        go_roundw
        case rel => exact ⟨i + 1, c', L', hi'.out, by simp, hL', hP2, hB2⟩
        case measure => simp [intOf]; have := hi'.out; omega
    · obtain rfl : i = N := by omega
      have e1 : decide ((i : Int) < (i : Int)) = false := by simp
      have hfin := hid (show LrnL room ops came L from by
        have := hL.out
        rw [List.take_of_length_le (by rw [hN.out]; exact Nat.le_refl _)] at this
        exact this)
      clear hL
      go_wp2
      go_ret
      exact ⟨pb, came, L, rfl, hfin, hP, hB⟩
end Go.Proofs.Ytiggfigjibggaaa
