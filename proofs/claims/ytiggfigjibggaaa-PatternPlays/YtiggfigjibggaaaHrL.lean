/-
  What PatternPlays is given, as it comes in: by the form's own reach.
-/
import Derived.Test.YtiggfigjibggaaaHrK
import Derived.Test.YtiggfigjibggaaaRows
import Derived.OpenShut
import Derived.Deep.Strs
namespace Go.Proofs.Ytiggfigjibggaaa
open Go.RowKit Go.Shelf Go.Maps
open Go.ChangeShapes Go.WideShapes Go.ChangeAt
set_option maxRecDepth 100000

section
variable {H : Type} {enc : TypeId × Value → H} {w : World} {base : Nat} {spare : Nat → Bool} {held : Bool}
/-- A list that comes in, element by element; its lengths by the form's own reach. -/
theorem open_listB {α : Type} {te ty : TypeId} {sz : Nat} (hty : Try.prog.underlying ty = some (.slice te)) (hsz : Try.prog.cellsOf te = sz) (h0 : 0 < sz) {By : Nat} (hby : By ≤ Try.prog.bytesOf te) (E : α → List Value → Prop)
    (one : ∀ {m : Nat} {cs : List Value} {y : DataW H × List MemPlace}, DataW.trod enc Try.prog w base spare held m te cs = some y → (∀ q ∈ y.1.weights Try.prog te, q ≤ reachBytes) → cs.length = sz → ∃ x : α, E x cs)
    {fuel : Nat} {v : Value} {x : DataW H × List MemPlace} (hf : DataW.trod enc Try.prog w base spare held fuel ty [v] = some x) (hwt : ∀ m ∈ x.1.weights Try.prog ty, m ≤ reachBytes) :
    ∃ (ao : Option Addr) (cap : Nat) (L : List α), v = .slice ao L.length cap ∧ L.length * By ≤ reachBytes ∧ ∀ (i : Nat) (a : α), L[i]? = some a → ∃ b off cs, ao = some ⟨b, off, none⟩ ∧ b < w.heap.size ∧ cs.length = sz ∧ w.rangeAt b (off + i * sz) cs ∧ E a cs := by
  rcases DataW.trod_slice hty hf with ⟨hcs, _⟩ | ⟨a, len, cap, elems, rest, n, _, hcs, hx, hb, hl, hm, hlen, hel, -, -⟩
  · simp at hcs
    subst hcs
    exact ⟨none, 0, [], rfl, by simp, fun i s h => by simp at h⟩
  · simp at hcs
    subst hcs
    rw [congrArg Prod.fst hx] at hwt
    simp only [DataW.weights, hty] at hwt
    have hlc : len * By ≤ reachBytes := by
      have h := hwt _ (List.mem_cons_self ..)
      simp only [List.length_map] at h
      have h2 : (elems.length + rest.length) * By ≤ (elems.length + rest.length) * Try.prog.bytesOf te := Nat.mul_le_mul_left _ hby
      have h3 : len * By ≤ (elems.length + rest.length) * By := Nat.mul_le_mul_right _ (by omega)
      exact Nat.le_trans h3 (Nat.le_trans h2 h)
    have each : ∀ i, i < len → ∃ cs, w.cells? base (a.add (i * sz)) sz = some cs ∧ ∃ x : α, E x cs := by
      intro i hi
      have h := hel i hi
      rw [hsz, List.getElem?_eq_getElem (by omega), Option.bind_eq_some_iff] at h
      obtain ⟨cs, h1, h2⟩ := h
      have hmem : (elems[i]'(by omega)).1 ∈ elems.map (·.1) := List.mem_map_of_mem (List.getElem_mem _)
      exact ⟨cs, h1, one h2 (fun q hq => hwt q (List.mem_cons_of_mem _ (List.mem_append_left _ (weights_allP hmem hq)))) (World.cells?_some h1).2.1⟩
    have key : ∀ k, k ≤ len → ∃ L : List α, L.length = k ∧ ∀ (i : Nat) (x : α), L[i]? = some x → ∃ cs, w.cells? base (a.add (i * sz)) sz = some cs ∧ E x cs := by
      intro k
      induction k with
      | zero => exact fun _ => ⟨[], rfl, fun i o h => by simp at h⟩
      | succ k ih =>
        intro hk
        obtain ⟨L, hL, hall⟩ := ih (by omega)
        obtain ⟨cs, h1, x, h2⟩ := each k (by omega)
        refine ⟨L ++ [x], by simp [hL], fun i o' h => ?_⟩
        by_cases hi : i < k
        · rw [List.getElem?_append_left (by omega)] at h
          exact hall i o' h
        · have hi2 := (List.getElem?_eq_some_iff.1 h).1
          rw [List.length_append, List.length_cons, List.length_nil] at hi2
          obtain rfl : i = k := by omega
          rw [List.getElem?_append_right (by omega), hL] at h
          simp at h
          subst h
          exact ⟨cs, h1, h2⟩
    obtain ⟨L, hL, hall⟩ := key len (Nat.le_refl _)
    refine ⟨some a, cap, L, by rw [hL], by rw [hL]; exact hlc, fun i s hi => ?_⟩
    obtain ⟨cs, hcs, hE⟩ := hall i s hi
    have hc := World.cells?_some hcs
    obtain ⟨b, off, spot⟩ := a
    have hspot : spot = none := by
      have hi2 := (List.getElem?_eq_some_iff.1 hi).1
      obtain ⟨o0, ho0⟩ : ∃ o0, L[0]? = some o0 := ⟨L[0]'(by omega), List.getElem?_eq_getElem _⟩
      obtain ⟨cs0, h00, -⟩ := hall 0 o0 ho0
      have hc0 := World.cells?_some h00
      obtain ⟨y0, hy0⟩ : ∃ y, cs0[0]? = some y := ⟨cs0[0]'(by rw [hc0.2.1]; exact h0), List.getElem?_eq_getElem _⟩
      have := World.cell?_spot ((hc0.2.2 0 h0).trans hy0)
      simpa [Addr.add] using this
    subst hspot
    have e : ∀ j, ((⟨b, off, none⟩ : Addr).add (i * sz)).add j = ⟨b, off + i * sz + j, none⟩ := fun j => by
      by_cases h1 : i * sz = 0 <;> by_cases h2 : j = 0 <;> simp [Addr.add, h1, h2]
    have hr : w.rangeAt b (off + i * sz) cs := fun j u hj => by
      have hjl := (List.getElem?_eq_some_iff.1 hj).1
      have h2 := hc.2.2 j (by omega)
      rw [e j] at h2
      rw [h2]
      exact hj
    obtain ⟨y0, hy0⟩ : ∃ y, cs[0]? = some y := ⟨cs[0]'(by rw [hc.2.1]; exact h0), List.getElem?_eq_getElem _⟩
    exact ⟨b, off, cs, rfl, cell_ltP (hr 0 y0 hy0), hc.2.1, hr, hE⟩
theorem trod_fourP {P : Program} {t : TypeId} {f0 f1 f2 f3 : Field} {fuel : Nat} {cs : List Value} {x : DataW H × List MemPlace} (ht : P.underlying t = some (.struct #[f0, f1, f2, f3])) (h : DataW.trod enc P w base spare held fuel t cs = some x) :
    ∃ y0 y1 y2 y3 n, x.1 = .agg [y0.1, y1.1, y2.1, y3.1] ∧ DataW.trod enc P w base spare held n f0.type ((cs.drop f0.offset).take (P.cellsOf f0.type)) = some y0 ∧
      DataW.trod enc P w base spare held n f1.type ((cs.drop f1.offset).take (P.cellsOf f1.type)) = some y1 ∧ DataW.trod enc P w base spare held n f2.type ((cs.drop f2.offset).take (P.cellsOf f2.type)) = some y2 ∧
      DataW.trod enc P w base spare held n f3.type ((cs.drop f3.offset).take (P.cellsOf f3.type)) = some y3 := by
  obtain ⟨xs, n, _, rfl, hl, hlen, hf⟩ := DataW.trod_struct ht h
  match xs, hlen with
  | [y0, y1, y2, y3], _ => exact ⟨y0, y1, y2, y3, n, by simp, by simpa using hf 0 f0 rfl, by simpa using hf 1 f1 rfl, by simpa using hf 2 f2 rfl, by simpa using hf 3 f3 rfl⟩
theorem cellsLr : Try.prog.cellsOf 25 = 4 := by kernel_rfl
theorem bytesLr : 48 ≤ Try.prog.bytesOf 25 := of_decide_eq_true (by kernel_rfl)
/-- A list of learnt places that comes in. -/
theorem open_lrsF {fuel : Nat} {v : Value} {x : DataW H × List MemPlace} (hf : DataW.trod enc Try.prog w base spare held fuel 22 [v] = some x) (hwt : ∀ m ∈ x.1.weights Try.prog 22, m ≤ reachBytes) :
    ∃ (ao : Option Addr) (cap : Nat) (L : List Lr), v = .slice ao L.length cap ∧ L.length ≤ 2932031007400 ∧ LnsAt w ao L := by
  obtain ⟨ao, cap, L, e, hs, hall⟩ := open_listB (α := Lr) (te := 25) (sz := 4) Try.underlying22 cellsLr (by decide) bytesLr (fun s cs => cs = [.string s.r, .string s.n, .int .i64 s.p, .int .i64 s.h] ∧ LrOk s) (fun {m cs y} h hw hl => by
    obtain ⟨c0, c1, c2, c3, rfl⟩ : ∃ c0 c1 c2 c3, cs = [c0, c1, c2, c3] := by
      match cs, hl with
      | [a, b, c, d], _ => exact ⟨a, b, c, d, rfl⟩
    obtain ⟨y0, y1, y2, y3, m', hx, h0, h1, h2, h3⟩ := trod_fourP Try.underlying25 h
    have e0 : ((([c0, c1, c2, c3] : List Value).drop 0).take (Try.prog.cellsOf 9)) = [c0] := by rw [cells1]; rfl
    have e1 : ((([c0, c1, c2, c3] : List Value).drop 1).take (Try.prog.cellsOf 9)) = [c1] := by rw [cells1]; rfl
    have e2 : ((([c0, c1, c2, c3] : List Value).drop 2).take (Try.prog.cellsOf 3)) = [c2] := by rw [cellsIn]; rfl
    have e3 : ((([c0, c1, c2, c3] : List Value).drop 3).take (Try.prog.cellsOf 3)) = [c3] := by rw [cellsIn]; rfl
    have h0' : DataW.trod enc Try.prog w base spare held m' 9 [c0] = some y0 := by rw [← e0]; exact h0
    have h1' : DataW.trod enc Try.prog w base spare held m' 9 [c1] = some y1 := by rw [← e1]; exact h1
    have h2' : DataW.trod enc Try.prog w base spare held m' 3 [c2] = some y2 := by rw [← e2]; exact h2
    have h3' : DataW.trod enc Try.prog w base spare held m' 3 [c3] = some y3 := by rw [← e3]; exact h3
    obtain ⟨rr, hr, hy0, -⟩ := DataW.trod_string Try.underlying9 h0'
    obtain ⟨nn, hn, hy1, -⟩ := DataW.trod_string Try.underlying9 h1'
    obtain ⟨pp, hp, hy2, w2⟩ := DataW.trod_int Try.underlying3 h2'
    obtain ⟨hh, hh', hy3, w3⟩ := DataW.trod_int Try.underlying3 h3'
    simp at hr hn hp hh'
    rw [hx] at hw
    simp only [DataW.weights, Try.underlying25] at hw
    have q0 : rr.size ≤ reachBytes := hw rr.size (DataW.weights_mem_each (j := 0) rfl rfl _ (by rw [hy0]; simp only [DataW.weights, List.mem_singleton, Array.length_toList]; rfl))
    have q1 : nn.size ≤ reachBytes := hw nn.size (DataW.weights_mem_each (j := 1) rfl rfl _ (by rw [hy1]; simp only [DataW.weights, List.mem_singleton, Array.length_toList]; rfl))
    have b2 := wf_bounds w2
    have b3 := wf_bounds w3
    refine ⟨⟨rr, nn, pp, hh⟩, by rw [hr, hn, hp, hh'], ⟨by unfold reachBytes at q0; show rr.size ≤ _; omega, by unfold reachBytes at q1; show nn.size ≤ _; omega⟩, b2.1, b2.2, b3.1, b3.2⟩) hf hwt
  refine ⟨ao, cap, L, e, by unfold reachBytes at hs; omega, fun i x hi => ?_⟩
  obtain ⟨b, off, cs, h1, h2, -, h3, rfl, h4⟩ := hall i x hi
  exact ⟨h4, b, off, h1, h2, h3⟩
/-- A list of calls that comes in. -/
theorem open_opsF {fuel : Nat} {v : Value} {x : DataW H × List MemPlace} (hf : DataW.trod enc Try.prog w base spare held fuel 37 [v] = some x) (hwt : ∀ m ∈ x.1.weights Try.prog 37, m ≤ reachBytes) :
    ∃ (ao : Option Addr) (cap : Nat) (L : List OpV), v = .slice ao L.length cap ∧ L.length ≤ reachBytes ∧ OpsAt w ao L := by
  obtain ⟨ao, cap, L, e, hs, hall⟩ := open_listZ (α := OpV) (te := 47) (sz := 5) Try.underlying37 cellsOp (by decide) bytesOp (fun x cs => cs = [.int .i64 x.on, .int .i64 x.kind, .string x.r, .string x.n, .int .i64 x.p] ∧ OpOk x) (fun {m cs y} h hw hl => by
    obtain ⟨c0, c1, c2, c3, c4, rfl⟩ : ∃ c0 c1 c2 c3 c4, cs = [c0, c1, c2, c3, c4] := by
      match cs, hl with
      | [a, b, c, d, e], _ => exact ⟨a, b, c, d, e, rfl⟩
    obtain ⟨y0, y1, y2, y3, y4, m', hx, h0, h1, h2, h3, h4⟩ := trod_fiveP Try.underlying47 h
    have e0 : ((([c0, c1, c2, c3, c4] : List Value).drop 0).take (Try.prog.cellsOf 3)) = [c0] := by rw [cellsIn]; rfl
    have e1 : ((([c0, c1, c2, c3, c4] : List Value).drop 1).take (Try.prog.cellsOf 3)) = [c1] := by rw [cellsIn]; rfl
    have e2 : ((([c0, c1, c2, c3, c4] : List Value).drop 2).take (Try.prog.cellsOf 9)) = [c2] := by rw [cells1]; rfl
    have e3 : ((([c0, c1, c2, c3, c4] : List Value).drop 3).take (Try.prog.cellsOf 9)) = [c3] := by rw [cells1]; rfl
    have e4 : ((([c0, c1, c2, c3, c4] : List Value).drop 4).take (Try.prog.cellsOf 3)) = [c4] := by rw [cellsIn]; rfl
    have h0' : DataW.trod enc Try.prog w base spare held m' 3 [c0] = some y0 := by rw [← e0]; exact h0
    have h1' : DataW.trod enc Try.prog w base spare held m' 3 [c1] = some y1 := by rw [← e1]; exact h1
    have h2' : DataW.trod enc Try.prog w base spare held m' 9 [c2] = some y2 := by rw [← e2]; exact h2
    have h3' : DataW.trod enc Try.prog w base spare held m' 9 [c3] = some y3 := by rw [← e3]; exact h3
    have h4' : DataW.trod enc Try.prog w base spare held m' 3 [c4] = some y4 := by rw [← e4]; exact h4
    obtain ⟨on, ho, hy0, w0⟩ := DataW.trod_int Try.underlying3 h0'
    obtain ⟨kd, hk, hy1, w1⟩ := DataW.trod_int Try.underlying3 h1'
    obtain ⟨rr, hr, hy2, -⟩ := DataW.trod_string Try.underlying9 h2'
    obtain ⟨nn, hn, hy3, -⟩ := DataW.trod_string Try.underlying9 h3'
    obtain ⟨pp, hp, hy4, w4⟩ := DataW.trod_int Try.underlying3 h4'
    simp at ho hk hr hn hp
    rw [hx] at hw
    simp only [DataW.weights, Try.underlying47] at hw
    have q2 : rr.size ≤ reachBytes := hw rr.size (DataW.weights_mem_each (j := 2) rfl rfl _ (by rw [hy2]; simp only [DataW.weights, List.mem_singleton, Array.length_toList]; rfl))
    have q3 : nn.size ≤ reachBytes := hw nn.size (DataW.weights_mem_each (j := 3) rfl rfl _ (by rw [hy3]; simp only [DataW.weights, List.mem_singleton, Array.length_toList]; rfl))
    have b4 := wf_bounds w4
    refine ⟨⟨on, kd, rr, nn, pp⟩, by rw [ho, hk, hr, hn, hp], ⟨by unfold reachBytes at q2; show rr.size ≤ _; omega, by unfold reachBytes at q3; show nn.size ≤ _; omega⟩, b4.1, b4.2, w0, w1⟩) hf hwt
  refine ⟨ao, cap, L, e, hs, fun i x hi => ?_⟩
  obtain ⟨b, off, cs, h1, h2, -, h3, rfl, h4⟩ := hall i x hi
  exact ⟨h4, b, off, h1, h2, h3⟩
theorem okWide_strctP {P : Program} {r : Reach} {b0 : Nat} {t : TypeId} {v : Value} {fs : Array Field} (ht : P.underlying t = some (.struct fs)) (h : Value.okWide P w r b0 t v) : ∃ cs, v = .agg cs ∧ cs.size = P.cellsOf t := by
  simp only [Value.okWide, ht] at h
  obtain ⟨cs, h1, h2, _⟩ := h
  exact ⟨cs, h1, h2⟩
theorem cellsSc : Try.prog.cellsOf 39 = 5 := by kernel_rfl
theorem cellsA2 : Try.prog.cellsOf 35 = 2 := by kernel_rfl
theorem cellsL2 : Try.prog.cellsOf 36 = 2 := by kernel_rfl
theorem cellsLs : Try.prog.cellsOf 22 = 1 := by kernel_rfl
theorem cellsOs : Try.prog.cellsOf 37 = 1 := by kernel_rfl
theorem trod_two {e t : TypeId} {m : Nat} {c0 c1 : Value} {y : DataW H × List MemPlace} (ht : Try.prog.underlying t = some (.array 2 e)) (h1 : Try.prog.cellsOf e = 1) (h : DataW.trod enc Try.prog w base spare held m t [c0, c1] = some y) :
    ∃ y0 y1 m', y.1 = .agg [y0.1, y1.1] ∧ DataW.trod enc Try.prog w base spare held m' e [c0] = some y0 ∧ DataW.trod enc Try.prog w base spare held m' e [c1] = some y1 := by
  obtain ⟨xs, m', _, rfl, -, hl, hf⟩ := DataW.trod_array ht h
  match xs, hl with
  | [y0, y1], _ =>
    have a0 := hf 0 (by decide)
    have a1 := hf 1 (by decide)
    rw [h1] at a0 a1
    exact ⟨y0, y1, m', by simp, by simpa using a0, by simpa using a1⟩
/-- What PatternPlays is given. -/
theorem open_script {r : Reach} {b0 : Nat} {v : Value} {d : DataW H} {ps : List MemPlace} (hval : Value.okWide Try.prog w r b0 39 v) (hd : DataW.Trod enc Try.prog w base spare held 39 v d ps) (hwt : ∀ m ∈ d.weights Try.prog 39, m ≤ reachBytes) :
    ∃ (r0 r1 : Int) (ao : Option Addr) (ca : Nat) (l0 : List Lr) (bo : Option Addr) (cb : Nat) (l1 : List Lr) (co : Option Addr) (cc : Nat) (ops : List OpV), v = .agg #[.int .i64 r0, .int .i64 r1, .slice ao l0.length ca, .slice bo l1.length cb, .slice co ops.length cc] ∧ l0.length ≤ 2932031007400 ∧ l1.length ≤ 2932031007400 ∧ ops.length ≤ 140737488355328 ∧ LnsAt w ao l0 ∧ LnsAt w bo l1 ∧ OpsAt w co ops := by
  obtain ⟨cs, rfl, hs⟩ := okWide_strctP Try.underlying39 hval
  obtain ⟨fuel, hf⟩ := hd
  obtain ⟨y0, y1, y2, m, hx, hl, g0, g1, g2⟩ := Go.Deep.trod_struct3 Try.underlying39 hf
  rw [cellsSc] at hs
  obtain ⟨c0, c1, c2, c3, c4, rfl⟩ : ∃ c0 c1 c2 c3 c4, cs = #[c0, c1, c2, c3, c4] := by
    obtain ⟨l⟩ := cs
    match l, hs with
    | [c0, c1, c2, c3, c4], _ => exact ⟨c0, c1, c2, c3, c4, rfl⟩
  have e0 : (((Value.agg #[c0, c1, c2, c3, c4]).cells.toList.drop 0).take (Try.prog.cellsOf 35)) = [c0, c1] := by rw [cellsA2]; rfl
  have e1 : (((Value.agg #[c0, c1, c2, c3, c4]).cells.toList.drop 2).take (Try.prog.cellsOf 36)) = [c2, c3] := by rw [cellsL2]; rfl
  have e2 : (((Value.agg #[c0, c1, c2, c3, c4]).cells.toList.drop 4).take (Try.prog.cellsOf 37)) = [c4] := by rw [cellsOs]; rfl
  have g0' : DataW.trod enc Try.prog w base spare held m 35 [c0, c1] = some y0 := by rw [← e0]; exact g0
  have g1' : DataW.trod enc Try.prog w base spare held m 36 [c2, c3] = some y1 := by rw [← e1]; exact g1
  have g2' : DataW.trod enc Try.prog w base spare held m 37 [c4] = some y2 := by rw [← e2]; exact g2
  have hx' := congrArg Prod.fst hx
  dsimp only at hx'
  rw [hx'] at hwt
  simp only [DataW.weights, Try.underlying39] at hwt
  obtain ⟨z0, z1, m0, -, i0, i1⟩ := trod_two Try.underlying35 cellsIn g0'
  obtain ⟨z2, z3, m1, hz, i2, i3⟩ := trod_two Try.underlying36 cellsLs g1'
  have hL : ∀ q ∈ DataW.weightsAll Try.prog 22 [z2.1, z3.1], q ≤ reachBytes := fun q hq => hwt q (DataW.weights_mem_each (j := 1) (t := 36) rfl rfl q (by
    rw [hz]
    simp only [DataW.weights, Try.underlying36]
    exact hq))
  obtain ⟨r0, hr0, -, -⟩ := DataW.trod_int Try.underlying3 i0
  obtain ⟨r1, hr1, -, -⟩ := DataW.trod_int Try.underlying3 i1
  simp at hr0 hr1
  obtain ⟨ao, ca, l0, hl0, hs0, h0⟩ := open_lrsF i2 (fun q hq => hL q (weights_allP (List.mem_cons_self ..) hq))
  obtain ⟨bo, cb, l1, hl1, hs1, h1⟩ := open_lrsF i3 (fun q hq => hL q (weights_allP (List.mem_cons_of_mem _ (List.mem_cons_self ..)) hq))
  obtain ⟨co, cc, ops, hl2, hs2, h2⟩ := open_opsF g2' (fun q hq => hwt q (DataW.weights_mem_each (j := 2) (t := 37) rfl rfl q hq))
  exact ⟨r0, r1, ao, ca, l0, bo, cb, l1, co, cc, ops, by rw [hr0, hr1, hl0, hl1, hl2], hs0, hs1, by unfold reachBytes at hs2; omega, h0, h1, h2⟩
end
end Go.Proofs.Ytiggfigjibggaaa
