/-
  A pattern: Learn of a new key; Guess, Size.
-/
import Derived.Test.YtiggfigjibggaaaHpI
namespace Go.Proofs.Ytiggfigjibggaaa
open Go.RowKit Go.Shelf Go.Maps

theorem rmd_lt {room : Nat} {L L1 : List Ent} (h : Rmd room L L1) : L1.length < room := by
  rcases h with ⟨h1, rfl⟩ | ⟨h1, A, f, B, rfl, -, rfl⟩
  · exact h1
  · simp at h1 ⊢
    omega
set_option maxRecDepth 10000 in
set_option maxHeartbeats 8000000 in
theorem learn_new (pb mb : Nat) (v : Value) (H : HpL) (S : Nat → Prop) (room came : Nat) (L : List Ent) (hc : came < 4611686018427387904) (r n : ByteArray) (hk : KyOk r n) (hno : Hid (∀ x ∈ H, ¬ (x.2.r = r ∧ x.2.n = n))) (p : Nat) (hp : p ≤ 9223372036854775807) (w : World) (hP : Hid (PatI w pb mb v H S room came L)) :
    Calls Try.prog 10 #[ptB pb, .string r, .string n, .int .i64 (p : Int)] w fun e w' => LeP pb S room came L r n p w e w' := by
  have hlook : (Instr.lookup 61 (.map (some mb)) (.agg #[.string r, .string n]) true).run Try.prog w = .ok (.tuple #[.pointer none, .bool false]) w := hP.out.mp.look_no hk hno.out
  have c0 := hP.out.hv.box.cell 0
  have c2 := hP.out.hv.box.cell 2
  simp only [patC, List.getElem?_toArray, List.getElem?_cons_succ, List.getElem?_cons_zero] at c0 c2
  have hp0 : ¬ (p : Int) < 0 := by omega
  have hnoL := hid (fun (e : Ent) (he : e ∈ L) => (show ¬ (e.r = r ∧ e.n = n) from by
    obtain ⟨x, hx, rfl⟩ := hP.out.mem.1 he
    exact hno.out x hx))
  have hrm : (room : Int) ≤ 4096 := by have := hP.out.rm; omega
  by_cases h0 : room = 0
  · subst h0
    have hlrn := hid (show Lrn 0 came L r n p came L from .inr ⟨hnoL.out, .inl ⟨rfl, rfl, rfl⟩⟩)
    have hfin := hid (show PatM w pb (fun q => S q ∨ w.heap.size ≤ q) 0 came L from PatM.mono ⟨mb, v, H, hP.out⟩ (fun q _ h => .inl h))
    clear hP
    go_enter Try.func10, Try.ntmps10
    go_wp2
    go_ret
    exact ⟨rfl, came, L, hlrn, hfin, hid (Lap.refl _ _)⟩
  · have h0' : 0 < room := by omega
    have h0i : (0 : Int) < (room : Int) := by omega
    have hmr := hid (makeRoom_calls pb mb v H S room came L h0' w hP)
    go_enter Try.func10, Try.ntmps10
    go_wp2_with fail
    refine Calls.mono hmr.out ?_
    rintro e w1 ⟨rfl, v1, H1, L1, hrmd, hP1, hsub, hl1⟩
    have hco := hid (come_calls pb mb v1 H1 S room came L1 hc r n p 1 ⟨hk, hp, by show 1 ≤ _; omega⟩ (hid (fun x hx => hno.out x (hsub.out x hx))) (hid (rmd_lt hrmd.out)) w1 hP1)
    clear hmr hlook c0 c2
    go_wp2_with fail
    refine Calls.mono hco.out ?_
    rintro e w2 ⟨rfl, hP2, hl2⟩
    have hlrn := hid (show Lrn room came L r n p (came + 1) (L1 ++ [⟨r, n, p, 1, came⟩]) from .inr ⟨hnoL.out, .inr ⟨h0', L1, hrmd.out, rfl, rfl⟩⟩)
    have hfin := hid (hP2.out.mono (S' := fun q => S q ∨ w.heap.size ≤ q) (fun q _ h => h.imp id (fun h => Nat.le_trans hl1.out.size h)))
    have hlap := hid (hl1.out.trans hl2.out (fun q _ h => h))
    clear hco
    go_wp2
    go_ret
    exact ⟨rfl, came + 1, _, hlrn, hfin, hlap⟩
/-- (*Pattern).Learn at a place. -/
theorem learn_calls (pb : Nat) (S : Nat → Prop) (room came : Nat) (L : List Ent) (hc : came < 4611686018427387904) (r n : ByteArray) (hk : KyOk r n) (p : Nat) (hp : p ≤ 9223372036854775807) (w : World) (hP : PatM w pb S room came L) :
    Calls Try.prog 10 #[ptB pb, .string r, .string n, .int .i64 (p : Int)] w fun e w' => LeP pb S room came L r n p w e w' := by
  obtain ⟨mb, v, H, hP⟩ := hP
  by_cases h : ∃ x ∈ H, x.2.r = r ∧ x.2.n = n
  · obtain ⟨x, hx, rfl, rfl⟩ := h
    obtain ⟨i, hi, e⟩ := List.mem_iff_getElem.1 hx
    exact learn_yes pb mb v H S room came L i x (hid (by rw [← e]; exact List.getElem?_eq_getElem hi)) p hp w (hid hP)
  · exact learn_new pb mb v H S room came L hc r n hk (hid (fun x hx hh => h ⟨x, hx, hh⟩)) p hp w (hid hP)
/-- (*Pattern).Guess. -/
theorem guess_yes (pb : Nat) (S : Nat → Prop) (room came : Nat) (L : List Ent) (e : Ent) (he : e ∈ L) (w : World) (hP : PatM w pb S room came L) :
    Calls Try.prog 19 #[ptB pb, .string e.r, .string e.n] w fun en w' => en = .returned (.tuple #[.int .i64 (e.p : Int), .bool true]) ∧ w' = w := by
  obtain ⟨mb, v, H, hP⟩ := hP
  obtain ⟨x, hx, rfl⟩ := hP.mem.1 he
  have hlook : (Instr.lookup 61 (.map (some mb)) (.agg #[.string x.2.r, .string x.2.n]) true).run Try.prog w = .ok (.tuple #[ptB x.1, .bool true]) w := hP.mp.look_yes hx
  have c2 := hP.hv.box.cell 2
  obtain ⟨i, hi, ei⟩ := List.mem_iff_getElem.1 hx
  have d2 := (hP.hv.ent i x (by rw [← ei]; exact List.getElem?_eq_getElem hi)).cell 2
  simp only [patC, entC, List.getElem?_toArray, List.getElem?_cons_succ, List.getElem?_cons_zero] at c2 d2
  clear hP hx he hi ei
  obtain ⟨xb, ⟨xr, xn, xp, xh, xa⟩⟩ := x
  dsimp only at *
  go_enter Try.func19, Try.ntmps19
  go_wp2
  go_ret2
  exact ⟨rfl, rfl⟩
theorem guess_no (pb : Nat) (S : Nat → Prop) (room came : Nat) (L : List Ent) (r n : ByteArray) (hk : KyOk r n) (hno : ∀ e ∈ L, ¬ (e.r = r ∧ e.n = n)) (w : World) (hP : PatM w pb S room came L) :
    Calls Try.prog 19 #[ptB pb, .string r, .string n] w fun en w' => en = .returned (.tuple #[.int .i64 0, .bool false]) ∧ w' = w := by
  obtain ⟨mb, v, H, hP⟩ := hP
  have hlook : (Instr.lookup 61 (.map (some mb)) (.agg #[.string r, .string n]) true).run Try.prog w = .ok (.tuple #[.pointer none, .bool false]) w := hP.mp.look_no hk (fun x hx => hno x.2 (hP.mem.2 ⟨x, hx, rfl⟩))
  have c2 := hP.hv.box.cell 2
  simp only [patC, List.getElem?_toArray, List.getElem?_cons_succ, List.getElem?_cons_zero] at c2
  clear hP hno
  go_enter Try.func19, Try.ntmps19
  go_wp2
  go_ret2
  exact ⟨rfl, rfl⟩
/-- (*Pattern).Size. -/
theorem size_calls25 (pb : Nat) (S : Nat → Prop) (room came : Nat) (L : List Ent) (w : World) (hP : PatM w pb S room came L) :
    Calls Try.prog 9 #[ptB pb] w fun en w' => en = .returned (.int .i64 (L.length : Int)) ∧ w' = w := by
  obtain ⟨mb, v, H, hP⟩ := hP
  have hlen := fun (ty : TypeId) => hP.mp.len ty
  rw [hP.len] at hlen
  have c2 := hP.hv.box.cell 2
  simp only [patC, List.getElem?_toArray, List.getElem?_cons_succ, List.getElem?_cons_zero] at c2
  obtain ⟨n, hn⟩ : ∃ n, L.length = n := ⟨_, rfl⟩
  rw [hn] at hlen ⊢
  clear hP hn
  go_enter Try.func9, Try.ntmps9
  go_wp2
  go_ret
  exact ⟨rfl, rfl⟩
end Go.Proofs.Ytiggfigjibggaaa
