/-
 quarryref17.Member, called behind the world in which its value lies (by gen_ptw.py).
-/
import Derived.Test.YtjlcliicdclooaaDoorTrE2
namespace Go.Proofs.YtjlcliicdclooaaDoor
open Go.RowKit Go.Shelf
def MemA (t : Vt) (nm : ByteArray) (w0 w : World) (e : Ending) (w' : World) : Prop := ∃ (x : Value) (u : Vt) (B : Bool), e = .returned (.tuple #[x, .bool B]) ∧ ValAt w0 u x ∧ IsMem t nm u B ∧ Below w.heap.size w w'
set_option maxRecDepth 10000 in
set_option maxHeartbeats 4000000 in
theorem member17_at (t : Vt) (nm : ByteArray) (va : Value) (w0 w : World) (ha0 : ValAt w0 t va) (hbb : Below w0.heap.size w0 w) :
  Calls Tryd.prog 44 #[va, .string nm] w fun e w' => MemA t nm w0 w e w' := by
 have hf := hid (fun (w' : World) (h : ValAt w' t va) => first17_calls t nm va w' h)
 have ha' := hid (ha0.kept hbb)
 have hbb' := hid hbb
 cases ha0 with
 | mk k b r t ks vs ko kc vo vc X hw hz hk hr0 hv =>
 have hr := hr0.kept hbb
 clear hbb
 have hz1 := hid hz
 have hr1 := hid hr
 have hv1 := hid hv
 have hI : Hid (∀ u B, IsMem (.mk k b r t ks vs) nm u B = ((B = true ∧ k = 6 ∧ ks.length = vs.length ∧ ∃ i : Nat, IsFst ks nm (i : Int) ∧ vs[i]? = some u) ∨ (B = false ∧ u = vt0 ∧ ¬ (k = 6 ∧ ks.length = vs.length ∧ ∃ j : Nat, ks[j]? = some nm)))) := fun _ _ => rfl
 have hK : Hid ((Vt.mk k b r t ks vs).keys = ks) := rfl
 obtain ⟨N, hN⟩ : ∃ N, Hid (ks.length = N) := ⟨_, rfl⟩
 obtain ⟨M, hM⟩ : ∃ M, Hid (vs.length = M) := ⟨_, rfl⟩
 rw [hN.out, hM.out] at ha' hf ⊢
 have hNi : (N : Int) ≤ 9223372036854775807 := by have := hz1.out.2.2.1; rw [hN.out] at this; unfold capT at this; omega
 have hMi : (M : Int) ≤ 9223372036854775807 := by have := hz1.out.2.2.2; rw [hM.out] at this; unfold capT at this; omega
 clear hk hr hr0 hv hz hw
 have A1 : Hid (At (w.alloc (.cells #[.int .i64 k, .bool b, .string r, .string t, .slice ko N kc, .slice vo M vc] 35)) w.heap.size #[.int .i64 k, .bool b, .string r, .string t, .slice ko N kc, .slice vo M vc] 35) := At.new w _ _
 have B1 : Hid (Below w.heap.size w (w.alloc (.cells #[.int .i64 k, .bool b, .string r, .string t, .slice ko N kc, .slice vo M vc] 35))) := (Below.refl _ w).alloc (Nat.le_refl _) _
 obtain ⟨W1, hW1⟩ : ∃ W, w.alloc (.cells #[.int .i64 k, .bool b, .string r, .string t, .slice ko N kc, .slice vo M vc] 35) = W := ⟨_, rfl⟩
 obtain ⟨W2, hW2⟩ : ∃ W, W1.alloc (.cells #[.int .i64 0, .bool false, .string ⟨#[]⟩, .string ⟨#[]⟩, .slice none 0 0, .slice none 0 0] 35) = W := ⟨_, rfl⟩
 rw [hW1] at A1 B1
 have hsz1 : W1.heap.size = w.heap.size + 1 := by rw [← hW1, World.size_alloc]
 have A1b : Hid (At W2 w.heap.size #[.int .i64 k, .bool b, .string r, .string t, .slice ko N kc, .slice vo M vc] 35) := by rw [← hW2]; exact A1.out.alloc _
 have A2 : Hid (At W2 (w.heap.size + 1) #[.int .i64 0, .bool false, .string ⟨#[]⟩, .string ⟨#[]⟩, .slice none 0 0, .slice none 0 0] 35) := by
  have h := At.new W1 #[.int .i64 0, .bool false, .string ⟨#[]⟩, .string ⟨#[]⟩, .slice none 0 0, .slice none 0 0] 35
  rw [hW2, hsz1] at h
  exact h
 have B2 : Hid (Below w.heap.size w W2) := by
  rw [← hW2]
  exact B1.out.alloc (by omega) _
 have c0 := A1.out.cell 0
 have c4 := A1.out.cell 4
 have c5 := A1.out.cell 5
 have e0 := A1b.out.cell 0
 have e1 := A1b.out.cell 1
 have e2 := A1b.out.cell 2
 have e3 := A1b.out.cell 3
 have e4 := A1b.out.cell 4
 have e5 := A1b.out.cell 5
 simp only [List.getElem?_toArray, List.getElem?_cons_zero, List.getElem?_cons_succ] at c0 c4 c5 e0 e1 e2 e3 e4 e5
 have d0 := A2.out.cell 0
 have d1 := A2.out.cell 1
 have d2 := A2.out.cell 2
 have d3 := A2.out.cell 3
 have d4 := A2.out.cell 4
 have d5 := A2.out.cell 5
 have f0 := A2.out.frozen 0
 have f1 := A2.out.frozen 1
 have f2 := A2.out.frozen 2
 have f3 := A2.out.frozen 3
 have f4 := A2.out.frozen 4
 have f5 := A2.out.frozen 5
 simp only [List.getElem?_toArray, List.getElem?_cons_zero, List.getElem?_cons_succ] at d0 d1 d2 d3 d4 d5
 by_cases h6 : k = 6
 ·subst h6
  by_cases hNM : N = M
  ·subst hNM
   have g0 : ((N : Int) != (N : Int)) = false := by simp
   go_enter Tryd.func44, Tryd.ntmps44
   go_wp2_with fail
   refine Calls.mono (hf.out W2 (ha'.out.kept B2.out)) ?_
   rintro e w3 ⟨f, rfl, hfs, hb3⟩
   rw [hK.out] at hfs
   have A3 := hid (A1b.out.keptAll hb3)
   have A4 := hid (A2.out.keptAll hb3)
   have B3 := hid (B2.out.trans (hb3.mono B2.out.size))
   clear d0 d1 d2 d3 d4 d5 f0 f1 f2 f3 f4 f5 hW1 hW2 hsz1 c0 c4 c5 e0 e1 e2 e3 e4 e5 hb3 A1 A1b A2 g0
   have d0 := A4.out.cell 0
   have d1 := A4.out.cell 1
   have d2 := A4.out.cell 2
   have d3 := A4.out.cell 3
   have d4 := A4.out.cell 4
   have d5 := A4.out.cell 5
   have f0 := A4.out.frozen 0
   have f1 := A4.out.frozen 1
   have f2 := A4.out.frozen 2
   have f3 := A4.out.frozen 3
   have f4 := A4.out.frozen 4
   have f5 := A4.out.frozen 5
   simp only [List.getElem?_toArray, List.getElem?_cons_zero, List.getElem?_cons_succ] at d0 d1 d2 d3 d4 d5
   have hfs' := hid hfs
   rcases hfs with ⟨rfl, hno⟩ | ⟨i, rfl, hy, hfi⟩
   ·have hno' := hid hno
    clear hno
    go_wp2
    refine ret_val2 (p := 4) (u := 5) rfl ?_ A4.out.six rfl ?_ ?_
    ·rfl
    ·rfl
    exact ⟨_, vt0, false, rfl, vt0_at _, by rw [hI.out]; exact .inr ⟨rfl, rfl, fun h => by obtain ⟨j, hj⟩ := h.2.2; exact hno'.out j hj⟩, below_six B3.out (by omega) _ _ _ _ _ _⟩
   ·have hlt : i < N := by have := (List.getElem?_eq_some_iff.1 hy).1; rw [hN.out] at this; exact this
    clear hy hfi
    have hii : (i : Int) < (N : Int) := by omega
    have hnn : ¬ ((i : Int) < 0) := by omega
    obtain ⟨u1, hu1⟩ : ∃ u, Hid (vs[i]? = some u) := ⟨_, List.getElem?_eq_getElem (by rw [hM.out]; exact hlt)⟩
    obtain ⟨g, o, rfl, hg, hrg, hl1⟩ := row_range (hr1.out.kept B3.out) (i := i) (by rw [hM.out]; exact hlt)
    have v1 := hid (((hv1.out i u1 hu1.out).kept hbb'.out).kept B3.out)
    obtain ⟨ko', kc', vo', vc', hx⟩ := v1.out.cells
    have hx' := hid hx
    rw [hx] at hrg v1
    obtain ⟨k1, hk1⟩ : ∃ k, u1.kind = k := ⟨_, rfl⟩
    obtain ⟨b1, hb1⟩ : ∃ k, u1.b = k := ⟨_, rfl⟩
    obtain ⟨r1, hr2⟩ : ∃ k, u1.raw = k := ⟨_, rfl⟩
    obtain ⟨t1, ht1⟩ : ∃ k, u1.text = k := ⟨_, rfl⟩
    obtain ⟨n1, hn1⟩ : ∃ k, u1.keys.length = k := ⟨_, rfl⟩
    obtain ⟨m1, hm1⟩ : ∃ k, u1.kids.length = k := ⟨_, rfl⟩
    rw [hk1, hb1, hr2, ht1, hn1, hm1] at hrg v1 hx'
    have hrgk := hid hrg
    clear hrg hl1 hx hk1 hb1 hr2 ht1 hn1 hm1
    have c5 := A3.out.cell 5
    simp only [List.getElem?_toArray, List.getElem?_cons_zero, List.getElem?_cons_succ] at c5
    have hd0 : decide ((i : Int) < 0) = false := decide_eq_false hnn
    go_wp2_with (refine wpList_load_want 35 _ g (o + i * 6) [.int .i64 k1, .bool b1, .string r1, .string t1, .slice ko' n1 kc', .slice vo' m1 vc'] _ hrgk.out Tryd.underlying35 sizeVl rfl rfl rfl (by rfl) ?_)
    refine ret_val2 (p := 4) (u := 5) rfl ?_ A4.out.six rfl ?_ ?_
    ·rfl
    ·rfl
    have B4 := below_six B3.out (b := w.heap.size + 1) (by omega) (.int .i64 k1) (.bool b1) (.string r1) (.string t1) (.slice ko' n1 kc') (.slice vo' m1 vc')
    refine ⟨_, u1, true, rfl, ?_, by rw [hI.out]; exact .inl ⟨rfl, by trivial, by rw [hN.out, hM.out], i, hfs'.out, hu1.out⟩, B4⟩
    have := hv1.out i u1 hu1.out
    rw [hx'.out] at this
    exact this
  ·have g0 : ((N : Int) != (M : Int)) = true := by simp; omega
   go_enter Tryd.func44, Tryd.ntmps44
   go_wp2
   refine ret_val2 (p := 4) (u := 5) rfl ?_ A2.out.six rfl ?_ ?_
   ·rfl
   ·rfl
   exact ⟨_, vt0, false, rfl, vt0_at _, by rw [hI.out]; exact .inr ⟨rfl, rfl, fun h => hNM (by rw [← hN.out, ← hM.out]; exact h.2.1)⟩, below_six B2.out (by omega) _ _ _ _ _ _⟩
 ·have g0 : (k != 6) = true := by simp; exact h6
  go_enter Tryd.func44, Tryd.ntmps44
  go_wp2
  refine ret_val2 (p := 4) (u := 5) rfl ?_ A2.out.six rfl ?_ ?_
  ·rfl
  ·rfl
  exact ⟨_, vt0, false, rfl, vt0_at _, by rw [hI.out]; exact .inr ⟨rfl, rfl, fun h => h6 h.1⟩, below_six B2.out (by omega) _ _ _ _ _ _⟩
end Go.Proofs.YtjlcliicdclooaaDoor
