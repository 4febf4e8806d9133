/-
  Lists of calls and of learnt places that come in, whatever their length.
-/
import Derived.Test.YtiggfigjibggaaaHpT
import Derived.ChangeSame
import Derived.ChangeSlices
import Derived.SizedLaws
import Derived.Lib.Strings
namespace Go.Proofs.Ytiggfigjibggaaa
open Go.RowKit Go.Shelf Go.Maps
open Go.ChangeShapes Go.WideShapes Go.ChangeAt

theorem weights_allP {H : Type} {P : Program} {e : TypeId} : ∀ {ds : List (DataW H)} {d : DataW H} {m : Nat}, d ∈ ds → m ∈ d.weights P e → m ∈ DataW.weightsAll P e ds
  | d0 :: ds, d, m, hd, hm => by
    simp only [DataW.weightsAll, List.mem_append]
    rcases List.mem_cons.1 hd with rfl | hd
    · exact .inl hm
    · exact .inr (weights_allP hd hm)
  | [], _, _, hd, _ => by simp at hd
theorem cell_ltP {w : World} {a : Addr} {v : Value} (h : w.cell? a = some v) : a.block < w.heap.size := by
  unfold World.cell? at h
  cases ho : w.heap[a.block]? with
  | none => simp [ho] at h
  | some o => exact (Array.getElem?_eq_some_iff.1 ho).1
section
variable {H : Type} {enc : TypeId × Value → H} {w : World} {base : Nat} {spare : Nat → Bool} {held : Bool}
/-- A list that comes in, element by element; its lengths by the form's own reach. -/
theorem open_listZ {α : Type} {te ty : TypeId} {sz : Nat} (hty : Try.prog.underlying ty = some (.slice te)) (hsz : Try.prog.cellsOf te = sz) (h0 : 0 < sz) (hby : 1 ≤ Try.prog.bytesOf te) (E : α → List Value → Prop)
    (one : ∀ {m : Nat} {cs : List Value} {y : DataW H × List MemPlace}, DataW.trod enc Try.prog w base spare held m te cs = some y → (∀ q ∈ y.1.weights Try.prog te, q ≤ reachBytes) → cs.length = sz → ∃ x : α, E x cs)
    {fuel : Nat} {v : Value} {x : DataW H × List MemPlace} (hf : DataW.trod enc Try.prog w base spare held fuel ty [v] = some x) (hwt : ∀ m ∈ x.1.weights Try.prog ty, m ≤ reachBytes) :
    ∃ (ao : Option Addr) (cap : Nat) (L : List α), v = .slice ao L.length cap ∧ L.length ≤ reachBytes ∧ ∀ (i : Nat) (a : α), L[i]? = some a → ∃ b off cs, ao = some ⟨b, off, none⟩ ∧ b < w.heap.size ∧ cs.length = sz ∧ w.rangeAt b (off + i * sz) cs ∧ E a cs := by
  rcases DataW.trod_slice hty hf with ⟨hcs, _⟩ | ⟨a, len, cap, elems, rest, n, _, hcs, hx, hb, hl, hm, hlen, hel, -, -⟩
  · simp at hcs
    subst hcs
    exact ⟨none, 0, [], rfl, Nat.zero_le _, fun i s h => by simp at h⟩
  · simp at hcs
    subst hcs
    rw [congrArg Prod.fst hx] at hwt
    simp only [DataW.weights, hty] at hwt
    have hlc : len ≤ reachBytes := by
      have h := hwt _ (List.mem_cons_self ..)
      simp only [List.length_map] at h
      have h2 : (elems.length + rest.length) * 1 ≤ (elems.length + rest.length) * Try.prog.bytesOf te := Nat.mul_le_mul_left _ hby
      omega
    have each : ∀ i, i < len → ∃ cs, w.cells? base (a.add (i * sz)) sz = some cs ∧ ∃ x : α, E x cs := by
      intro i hi
      have h := hel i hi
      rw [hsz, List.getElem?_eq_getElem (by omega), Option.bind_eq_some_iff] at h
      obtain ⟨cs, h1, h2⟩ := h
      have hmem : (elems[i]'(by omega)).1 ∈ elems.map (·.1) := List.mem_map_of_mem (List.getElem_mem _)
      exact ⟨cs, h1, one h2 (fun q hq => hwt q (List.mem_cons_of_mem _ (List.mem_append_left _ (weights_allP hmem hq)))) (World.cells?_some h1).2.1⟩
    have key : ∀ k, k ≤ len → ∃ L : List α, L.length = k ∧ ∀ (i : Nat) (x : α), L[i]? = some x → ∃ cs, w.cells? base (a.add (i * sz)) sz = some cs ∧ E x cs := by
      intro k
      induction k with
      | zero => exact fun _ => ⟨[], rfl, fun i o h => by simp at h⟩
      | succ k ih =>
        intro hk
        obtain ⟨L, hL, hall⟩ := ih (by omega)
        obtain ⟨cs, h1, x, h2⟩ := each k (by omega)
        refine ⟨L ++ [x], by simp [hL], fun i o' h => ?_⟩
        by_cases hi : i < k
        · rw [List.getElem?_append_left (by omega)] at h
          exact hall i o' h
        · have hi2 := (List.getElem?_eq_some_iff.1 h).1
          rw [List.length_append, List.length_cons, List.length_nil] at hi2
          obtain rfl : i = k := by omega
          rw [List.getElem?_append_right (by omega), hL] at h
          simp at h
          subst h
          exact ⟨cs, h1, h2⟩
    obtain ⟨L, hL, hall⟩ := key len (Nat.le_refl _)
    refine ⟨some a, cap, L, by rw [hL], by rw [hL]; exact hlc, fun i s hi => ?_⟩
    obtain ⟨cs, hcs, hE⟩ := hall i s hi
    have hc := World.cells?_some hcs
    obtain ⟨b, off, spot⟩ := a
    have hspot : spot = none := by
      have hi2 := (List.getElem?_eq_some_iff.1 hi).1
      obtain ⟨o0, ho0⟩ : ∃ o0, L[0]? = some o0 := ⟨L[0]'(by omega), List.getElem?_eq_getElem _⟩
      obtain ⟨cs0, h00, -⟩ := hall 0 o0 ho0
      have hc0 := World.cells?_some h00
      obtain ⟨y0, hy0⟩ : ∃ y, cs0[0]? = some y := ⟨cs0[0]'(by rw [hc0.2.1]; exact h0), List.getElem?_eq_getElem _⟩
      have := World.cell?_spot ((hc0.2.2 0 h0).trans hy0)
      simpa [Addr.add] using this
    subst hspot
    have e : ∀ j, ((⟨b, off, none⟩ : Addr).add (i * sz)).add j = ⟨b, off + i * sz + j, none⟩ := fun j => by
      by_cases h1 : i * sz = 0 <;> by_cases h2 : j = 0 <;> simp [Addr.add, h1, h2]
    have hr : w.rangeAt b (off + i * sz) cs := fun j u hj => by
      have hjl := (List.getElem?_eq_some_iff.1 hj).1
      have h2 := hc.2.2 j (by omega)
      rw [e j] at h2
      rw [h2]
      exact hj
    obtain ⟨y0, hy0⟩ : ∃ y, cs[0]? = some y := ⟨cs[0]'(by rw [hc.2.1]; exact h0), List.getElem?_eq_getElem _⟩
    exact ⟨b, off, cs, rfl, cell_ltP (hr 0 y0 hy0), hc.2.1, hr, hE⟩
theorem trod_fiveP {P : Program} {t : TypeId} {f0 f1 f2 f3 f4 : Field} {fuel : Nat} {cs : List Value} {x : DataW H × List MemPlace} (ht : P.underlying t = some (.struct #[f0, f1, f2, f3, f4])) (h : DataW.trod enc P w base spare held fuel t cs = some x) :
    ∃ y0 y1 y2 y3 y4 n, x.1 = .agg [y0.1, y1.1, y2.1, y3.1, y4.1] ∧ DataW.trod enc P w base spare held n f0.type ((cs.drop f0.offset).take (P.cellsOf f0.type)) = some y0 ∧
      DataW.trod enc P w base spare held n f1.type ((cs.drop f1.offset).take (P.cellsOf f1.type)) = some y1 ∧ DataW.trod enc P w base spare held n f2.type ((cs.drop f2.offset).take (P.cellsOf f2.type)) = some y2 ∧
      DataW.trod enc P w base spare held n f3.type ((cs.drop f3.offset).take (P.cellsOf f3.type)) = some y3 ∧ DataW.trod enc P w base spare held n f4.type ((cs.drop f4.offset).take (P.cellsOf f4.type)) = some y4 := by
  obtain ⟨xs, n, _, rfl, hl, hlen, hf⟩ := DataW.trod_struct ht h
  match xs, hlen with
  | [y0, y1, y2, y3, y4], _ => exact ⟨y0, y1, y2, y3, y4, n, by simp, by simpa using hf 0 f0 rfl, by simpa using hf 1 f1 rfl, by simpa using hf 2 f2 rfl, by simpa using hf 3 f3 rfl, by simpa using hf 4 f4 rfl⟩
end
/-- A call. -/
structure OpV where
  on : Int
  kind : Int
  r : ByteArray
  n : ByteArray
  p : Int
def OpOk (x : OpV) : Prop := KyOk x.r x.n ∧ -9223372036854775808 ≤ x.p ∧ x.p ≤ 9223372036854775807 ∧ ((Lit.int .i64 x.on).wf = true ∧ (Lit.int .i64 x.kind).wf = true)
def OpsAt (w : World) (ao : Option Addr) (l : List OpV) : Prop := ∀ (j : Nat) (x : OpV), l[j]? = some x → OpOk x ∧ ∃ b off, ao = some ⟨b, off, none⟩ ∧ b < w.heap.size ∧ w.rangeAt b (off + j * 5) [.int .i64 x.on, .int .i64 x.kind, .string x.r, .string x.n, .int .i64 x.p]
theorem OpsAt.kept {w w' : World} {ao : Option Addr} {l : List OpV} (h : OpsAt w ao l) (hb : Below w.heap.size w w') : OpsAt w' ao l := fun j x hj => by
  obtain ⟨h0, b, off, h1, h2, h3⟩ := h j x hj
  exact ⟨h0, b, off, h1, Nat.lt_of_lt_of_le h2 hb.size, range_kept h3 hb⟩
theorem cellsOp : Try.prog.cellsOf 47 = 5 := by kernel_rfl
theorem cellsIn : Try.prog.cellsOf 3 = 1 := by kernel_rfl
theorem bytesOp : 1 ≤ Try.prog.bytesOf 47 := of_decide_eq_true (by kernel_rfl)
theorem wf_bounds {p : Int} (h : (Lit.int .i64 p).wf = true) : -9223372036854775808 ≤ p ∧ p ≤ 9223372036854775807 := by
  simp [Lit.wf, IntKind.min, IntKind.max, IntKind.bits, IntKind.signed] at h
  omega
section
variable {H : Type} {enc : TypeId × Value → H} {w : World} {base : Nat} {spare : Nat → Bool} {held : Bool}
set_option maxRecDepth 10000 in
theorem open_opsZ {r : Reach} {b0 : Nat} {v : Value} {d : DataW H} {ps : List MemPlace} (hval : Value.okWide Try.prog w r b0 37 v) (hd : DataW.Trod enc Try.prog w base spare held 37 v d ps) (hwt : ∀ m ∈ d.weights Try.prog 37, m ≤ reachBytes) :
    ∃ (ao : Option Addr) (cap : Nat) (L : List OpV), v = .slice ao L.length cap ∧ L.length ≤ reachBytes ∧ OpsAt w ao L := by
  obtain ⟨ao, len, cap, rfl⟩ := okWide_slice Try.underlying37 hval
  obtain ⟨fuel, hf⟩ := hd
  have hf' : DataW.trod enc Try.prog w base spare held fuel 37 [.slice ao len cap] = some (d, ps) := by simpa [Value.cells] using hf
  obtain ⟨ao, cap, L, e, hs, hall⟩ := open_listZ (α := OpV) (te := 47) (sz := 5) Try.underlying37 cellsOp (by decide) bytesOp (fun x cs => cs = [.int .i64 x.on, .int .i64 x.kind, .string x.r, .string x.n, .int .i64 x.p] ∧ OpOk x) (fun {m cs y} h hw hl => by
    obtain ⟨c0, c1, c2, c3, c4, rfl⟩ : ∃ c0 c1 c2 c3 c4, cs = [c0, c1, c2, c3, c4] := by
      match cs, hl with
      | [a, b, c, d, e], _ => exact ⟨a, b, c, d, e, rfl⟩
    obtain ⟨y0, y1, y2, y3, y4, m', hx, h0, h1, h2, h3, h4⟩ := trod_fiveP Try.underlying47 h
    have e0 : ((([c0, c1, c2, c3, c4] : List Value).drop 0).take (Try.prog.cellsOf 3)) = [c0] := by rw [cellsIn]; rfl
    have e1 : ((([c0, c1, c2, c3, c4] : List Value).drop 1).take (Try.prog.cellsOf 3)) = [c1] := by rw [cellsIn]; rfl
    have e2 : ((([c0, c1, c2, c3, c4] : List Value).drop 2).take (Try.prog.cellsOf 9)) = [c2] := by rw [cells1]; rfl
    have e3 : ((([c0, c1, c2, c3, c4] : List Value).drop 3).take (Try.prog.cellsOf 9)) = [c3] := by rw [cells1]; rfl
    have e4 : ((([c0, c1, c2, c3, c4] : List Value).drop 4).take (Try.prog.cellsOf 3)) = [c4] := by rw [cellsIn]; rfl
    have h0' : DataW.trod enc Try.prog w base spare held m' 3 [c0] = some y0 := by rw [← e0]; exact h0
    have h1' : DataW.trod enc Try.prog w base spare held m' 3 [c1] = some y1 := by rw [← e1]; exact h1
    have h2' : DataW.trod enc Try.prog w base spare held m' 9 [c2] = some y2 := by rw [← e2]; exact h2
    have h3' : DataW.trod enc Try.prog w base spare held m' 9 [c3] = some y3 := by rw [← e3]; exact h3
    have h4' : DataW.trod enc Try.prog w base spare held m' 3 [c4] = some y4 := by rw [← e4]; exact h4
    obtain ⟨on, ho, hy0, w0⟩ := DataW.trod_int Try.underlying3 h0'
    obtain ⟨kd, hk, hy1, w1⟩ := DataW.trod_int Try.underlying3 h1'
    obtain ⟨rr, hr, hy2, -⟩ := DataW.trod_string Try.underlying9 h2'
    obtain ⟨nn, hn, hy3, -⟩ := DataW.trod_string Try.underlying9 h3'
    obtain ⟨pp, hp, hy4, w4⟩ := DataW.trod_int Try.underlying3 h4'
    simp at ho hk hr hn hp
    rw [hx] at hw
    simp only [DataW.weights, Try.underlying47] at hw
    have q2 : rr.size ≤ reachBytes := hw rr.size (DataW.weights_mem_each (j := 2) rfl rfl _ (by rw [hy2]; simp only [DataW.weights, List.mem_singleton, Array.length_toList]; rfl))
    have q3 : nn.size ≤ reachBytes := hw nn.size (DataW.weights_mem_each (j := 3) rfl rfl _ (by rw [hy3]; simp only [DataW.weights, List.mem_singleton, Array.length_toList]; rfl))
    have b4 := wf_bounds w4
    refine ⟨⟨on, kd, rr, nn, pp⟩, by rw [ho, hk, hr, hn, hp], ⟨by unfold reachBytes at q2; show rr.size ≤ _; omega, by unfold reachBytes at q3; show nn.size ≤ _; omega⟩, b4.1, b4.2, w0, w1⟩) hf' hwt
  refine ⟨ao, cap, L, e, hs, fun i x hi => ?_⟩
  obtain ⟨b, off, cs, h1, h2, -, h3, rfl, h4⟩ := hall i x hi
  exact ⟨h4, b, off, h1, h2, h3⟩
end
end Go.Proofs.Ytiggfigjibggaaa
