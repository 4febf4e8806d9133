/-
  A pattern: its entries copied and sorted.
-/
import Derived.Test.YtiggfigjibggaaaHpM
namespace Go.Proofs.Ytiggfigjibggaaa
open Go.RowKit Go.Shelf Go.Sort

/-- Told ahead: more hits, or as many and it came ahead. -/
def ltE (x y : Ent) : Prop := y.h < x.h ∨ (x.h = y.h ∧ x.a < y.a)
theorem cfE_lt (x y : Ent) : cfE x y < 0 ↔ ltE x y := by
  unfold cfE cmpZ ltE
  split <;> (repeat' split) <;> omega
theorem ages_inj {w : World} {pb mb : Nat} {v : Value} {H : HpL} {S : Nat → Prop} {room came : Nat} {L : List Ent} (h : PatI w pb mb v H S room came L) {x y : Nat × Ent} (hx : x ∈ H) (hy : y ∈ H) (he : x.2.a = y.2.a) : x = y := by
  have h1 : (L.map (·.a)).Nodup := by
    have := h.asc
    refine List.pairwise_map.2 (this.imp ?_)
    intro a b hab
    omega
  have h2 : (H.map (fun z : Nat × Ent => z.2.a)).Nodup := by
    have hp := (h.pm.map (·.a))
    rw [List.map_map] at hp
    exact hp.nodup_iff.2 h1
  obtain ⟨i, hi, ei⟩ := List.mem_iff_getElem.1 hx
  obtain ⟨j, hj, ej⟩ := List.mem_iff_getElem.1 hy
  have hp := List.pairwise_iff_getElem.1 h2
  by_cases hlt : i < j
  · have := hp i j (by simpa using hi) (by simpa using hj) hlt
    simp [ei, ej, he] at this
  · by_cases hgt : j < i
    · have := hp j i (by simpa using hj) (by simpa using hi) hgt
      simp [ei, ej, he] at this
    · have : i = j := by omega
      subst this
      exact ei.symm.trans ej
theorem sizePtE (w : World) : (Go.sizeOf 64).run Try.prog w = .ok 1 w := by kernel_rfl
theorem pclone_calls (B : Nat) (v : Value) (Hl : List Value) (n : Nat) (hn : n ≤ 4096) (h1 : ∀ u ∈ Hl, u.oneCell' = true) (w : World) (hr : w.ownsRow B 64 1 v n Hl) :
    Calls Try.prog 29 #[v] w fun e w' => (∃ p c, e = .returned (.slice p n c) ∧ (0 < n → ∃ g, p = some ⟨g, 0, none⟩ ∧ w.heap.size ≤ g ∧ w'.ownsRow w.heap.size 64 1 (.slice p n c) n Hl)) ∧ Below w.heap.size w w' := by
  rcases hr.2 with ⟨rfl, rfl⟩ | ⟨g, cap, cur, rfl, -⟩
  · have h := AnyE.slices_Clone_nil Try.sclonL 0 0 w
    refine Calls.mono h ?_
    rintro e w' ⟨rfl, rfl⟩
    exact ⟨⟨none, 0, rfl, fun h => by omega⟩, Below.refl _ _⟩
  · obtain ⟨i0, hi, hz0, hz1, hz2⟩ := info_partsP infoPtE
    have h := AnyE.slices_Clone Try.sclonL i0 (.pointer none) 1 8 hi hz0 hz1 hz2 rfl (by decide) sizePtE g 0 n cap Hl w (by have := hr.1; omega) (by unfold maxLen; omega) (by omega) (fun j u hj => by
      rw [Nat.zero_add, hr.cellAt j (by have h2 := (List.getElem?_eq_some_iff.1 hj).1; have h3 := hr.1; omega)]
      exact hj) h1
    refine Calls.mono h ?_
    rintro e w' ⟨v', rfl, ho, -, hb⟩
    obtain ⟨p, c, rfl⟩ := own_shapeP ho
    refine ⟨⟨p, c, rfl, fun h0 => ?_⟩, hb⟩
    obtain ⟨g', cap', e⟩ := own_someP ho h0
    cases e
    exact ⟨g', rfl, (ho.lt g' rfl).1, ho⟩
theorem sort_heap {α : Type} [Inhabited α] (enc : α → Value) (w : World) (g m : Nat) (dk : Array α) (os : Array Obj) (q : Nat) (hq : q < w.heap.size) (hne : q ≠ g) : (sortWorld enc w g 0 m dk os).heap[q]? = w.heap[q]? := by
  unfold sortWorld
  rw [heap_grow_old _ _ (by rw [size_putRow]; exact hq)]
  unfold putRow mapBlock
  simp only [Array.getElem?_modify]
  rw [if_neg (fun e => hne e.symm)]
  rfl
/-- What the sort leaves. -/
def SrP (p : Option Addr) (H : HpL) (w : World) (e : Ending) (w' : World) : Prop :=
  e = .returned (.tuple #[]) ∧ ∃ M : HpL, Hid (M.Perm H) ∧ Hid (M.Pairwise (fun x y => ltE x.2 y.2)) ∧ Hid (∀ i x, M[i]? = some x → ∃ g, p = some ⟨g, 0, none⟩ ∧ g < w'.heap.size ∧ w'.cell? ⟨g, i, none⟩ = some (ptB x.1)) ∧ Hid (Lap (fun q => p = some ⟨q, 0, none⟩ ∧ H ≠ []) w w')
theorem enterI (args : Array Value) (w : World) : (callFunc 31 args).run Try.prog w = .ok (.enter 31 args) w := by kernel_rfl
theorem psort_calls (p : Option Addr) (c n : Nat) (hn : n ≤ 4096) (H : HpL) (hl : H.length = n) (w : World) (B : Nat) (hr : 0 < n → ∃ g, p = some ⟨g, 0, none⟩ ∧ w.ownsRow B 64 1 (.slice p n c) n (H.map fun x => ptB x.1))
    (hent : ∀ x ∈ H, ∃ q, At w x.1 (entC x.2 q) 78) (hag : ∀ x ∈ H, ∀ y ∈ H, x.2.a = y.2.a → x = y) (hnd : H.Nodup) :
    Calls Try.prog 30 #[.slice p n c, .func (.func 31) #[] #[]] w fun e w' => SrP p H w e w' := by
  by_cases h0 : n = 0
  · subst h0
    have h := AnyF.slices_SortFunc_none (P := Try.prog) (ρ := Try.sortL_ren) { Try.sortL with } p c (.func (.func 31) #[] #[]) w
    refine Calls.mono h ?_
    rintro e w' ⟨rfl, rfl⟩
    obtain rfl : H = [] := List.length_eq_zero_iff.1 hl
    exact ⟨rfl, [], hid (List.Perm.refl _), hid List.Pairwise.nil, hid (fun i x hi => by simp at hi), hid (Lap.refl _ _)⟩
  · obtain ⟨g, rfl, hrow⟩ := hr (by omega)
    have hg := (hrow.lt g rfl).2
    have hne : H ≠ [] := fun e => by rw [e] at hl; simp at hl; omega
    obtain ⟨x0, hx0⟩ : ∃ x0, x0 ∈ H := ⟨H.head hne, List.head_mem hne⟩
    letI : Inhabited {x : Nat × Ent // x ∈ H} := ⟨⟨x0, hx0⟩⟩
    obtain ⟨d, hd⟩ : ∃ d : Array {x : Nat × Ent // x ∈ H}, d = H.attach.toArray := ⟨_, rfl⟩
    have hds : d.size = n := by rw [hd]; simp [hl]
    have hdm : d.toList.map (·.1) = H := by rw [hd]; exact List.attach_map_subtype_val H
    obtain ⟨cf, hcf⟩ : ∃ cf : {x : Nat × Ent // x ∈ H} → {x : Nat × Ent // x ∈ H} → Int, cf = fun x y => cfE x.1.2 y.1.2 := ⟨_, rfl⟩
    have hlt : ∀ x y, ltOf cf x y = true ↔ ltE x.1.2 y.1.2 := fun x y => by
      unfold ltOf
      rw [hcf, decide_eq_true_iff]
      exact cfE_lt _ _
    have hltf : ∀ x y, ltOf cf x y = false ↔ ¬ ltE x.1.2 y.1.2 := fun x y => by
      rw [← hlt]
      simp
    have hO : SWO (ltOf cf) := by
      refine ⟨fun x => ?_, fun x y z h1 h2 => ?_, fun x y z h1 h2 => ?_⟩
      · rw [hltf]; unfold ltE; omega
      · rw [hlt] at *; unfold ltE at *; omega
      · rw [hltf] at *; unfold ltE at *; omega
    have hT : ∀ x y, ltOf cf x y = false → ltOf cf y x = false → x = y := fun x y h1 h2 => by
      rw [hltf] at *
      exact Subtype.ext (hag x.1 x.2 y.1 y.2 (by unfold ltE at *; omega))
    have hgx : ∀ x ∈ H, x.1 ≠ g := fun x hx e => by
      obtain ⟨q, hq⟩ := hent x hx
      exact own_neP hrow hq (by decide) (by simp [Value.ownBlock, e])
    have hcmp : CmpLays1 Try.prog 31 #[] (fun x : {x : Nat × Ent // x ∈ H} => ptB x.1.1) cf g 0 d.size w := by
      intro m os dk hs x y
      obtain ⟨qx, hx⟩ := hent x.1 x.2
      obtain ⟨qy, hy⟩ := hent y.1 y.2
      have hx' : At (sortWorld (fun x : {x : Nat × Ent // x ∈ H} => ptB x.1.1) w g 0 m dk os) x.1.1 (entC x.1.2 qx) 78 := (sort_heap _ w g m dk os _ hx.lt (hgx x.1 x.2)).trans hx
      have hy' : At (sortWorld (fun x : {x : Nat × Ent // x ∈ H} => ptB x.1.1) w g 0 m dk os) y.1.1 (entC y.1.2 qy) 78 := (sort_heap _ w g m dk os _ hy.lt (hgx y.1 y.2)).trans hy
      have h := inOrder_calls x.1.2 y.1.2 x.1.1 y.1.1 qx qy _ hx' hy'
      rw [hcf]
      exact h
    have hH : Holds (fun x : {x : Nat × Ent // x ∈ H} => ptB x.1.1) w g 0 d := by
      intro j hj
      rw [Nat.zero_add, hrow.cellAt j (by omega)]
      refine ⟨?_, hrow.frozenAt j⟩
      rw [List.getElem?_map, List.getElem?_eq_getElem (by omega)]
      have e1 : d[j]! = d[j] := getElem!_pos d j hj
      have e2 : (d.toList.map (·.1))[j]'(by simpa using hj) = H[j]'(by omega) := by simp only [hdm]
      rw [e1]
      simp at e2
      rw [← e2]
      rfl
    have h := Any.slices_SortFunc_total Try.sortL (fun x : {x : Nat × Ent // x ∈ H} => ptB x.1.1) (fun _ => rfl) cf hO 31 #[] g 0 c d w enterI hcmp hH hg (by omega) hT
    rw [hds] at h
    refine Calls.mono h ?_
    rintro e w' ⟨rfl, m, os, rfl⟩
    obtain ⟨N, hN⟩ : ∃ N, N = d.toList.mergeSort (fun x y => !ltOf cf y x) := ⟨_, rfl⟩
    rw [← hN]
    have hNp : N.Perm d.toList := by rw [hN]; exact List.mergeSort_perm _ _
    have hNs : N.Pairwise (fun x y => (!ltOf cf y x) = true) := by
      rw [hN]
      refine List.pairwise_mergeSort (fun a b c h1 h2 => ?_) (fun a b => ?_) _
      · simp only [Bool.not_eq_true'] at *
        exact hO.ntrans c b a h2 h1
      · simp only [Bool.or_eq_true, Bool.not_eq_true']
        by_cases h : ltOf cf b a = false
        · exact .inl h
        · right
          rw [hltf]
          have h : ltOf cf b a = true := by simpa using h
          rw [hlt] at h
          unfold ltE at *
          omega
    have hNn : N.Nodup := by
      rw [hNp.nodup_iff]
      have : (d.toList.map (·.1)).Nodup := by rw [hdm]; exact hnd
      exact List.Pairwise.of_map (·.1) (fun a b hab e => hab (congrArg _ e)) this
    have hSW : SW (fun x : {x : Nat × Ent // x ∈ H} => ptB x.1.1) w g 0 N.toArray (sortWorld (fun x : {x : Nat × Ent // x ∈ H} => ptB x.1.1) w g 0 m N.toArray os) := ⟨m, os, rfl⟩
    have hhold := hSW.holds hg hH (by simp [hNp.length_eq])
    refine ⟨rfl, N.map (·.1), hid (by have := hNp.map (·.1); rw [hdm] at this; exact this), hid ?_, hid (fun i x hi => ⟨g, rfl, hSW.lt hg, ?_⟩), hid ⟨rfl, rfl, rfl, ?_, fun q hq hz => sort_heap _ w g m _ os q hq (fun e => hz ⟨by rw [e], hne⟩)⟩⟩
    · rw [List.pairwise_map]
      refine (hNs.and hNn).imp ?_
      rintro a b ⟨h1, h2⟩
      simp only [Bool.not_eq_true'] at h1
      rw [← hlt]
      by_cases h3 : ltOf cf a b = true
      · exact h3
      · exact absurd (hT a b (by simpa using h3) h1) h2
    · rw [List.getElem?_map] at hi
      cases hi2 : N[i]? with
      | none => rw [hi2] at hi; cases hi
      | some y =>
        rw [hi2] at hi
        cases hi
        obtain ⟨hl1, e1⟩ := List.getElem?_eq_some_iff.1 hi2
        have := (hhold i (by simpa using hl1)).1
        rw [Nat.zero_add] at this
        rw [this, getElem!_pos N.toArray i (by simpa using hl1)]
        simp [e1]
    · exact hSW.le
end Go.Proofs.Ytiggfigjibggaaa
