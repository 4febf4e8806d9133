/-
  The map of a pattern: from keys to entries.
-/
import Derived.Test.YtiggfigjibggaaaHpE
import Derived.Maps.OwnSet
import Derived.Maps.OwnOps
import Derived.MapViews
namespace Go.Proofs.Ytiggfigjibggaaa
open Go.RowKit Go.Shelf Go.Maps

theorem laidP : laidOutB Try.prog = true := by kernel_rfl
theorem rowKey : (74 : TypeId) < Try.prog.types.size := of_decide_eq_true (by kernel_rfl)
theorem keyedP : Keyed Try.prog 74 := Keyed.of_law (deep_law_laid laidP (m := 2) (by omega) rowKey (by kernel_rfl) (by rw [Try.underlying74]))
theorem keyTyP : Try.prog.keyType 74 = true := by kernel_rfl
abbrev keyA (r n : ByteArray) : Value := .agg #[.string r, .string n]
/-- What a key reads as. -/
def kl (r n : ByteArray) : Lit := .string (keyBytes [.string r.data.toList, .string n.data.toList])
theorem cells1 : Try.prog.cellsOf 9 = 1 := by kernel_rfl
theorem cells2 : Try.prog.cellsOf 74 = 2 := by kernel_rfl
theorem keyLits_one {d : Nat} {s : ByteArray} (hs : s.size ≤ maxLen) : Try.prog.keyLits (d + 1) 9 [.string s] = some [.string s.data.toList] := by
  unfold Program.keyLits
  rw [Try.underlying9]
  simp [hs]
theorem sizeTyP : ∃ m, Try.prog.types.size = m + 1 := by
  have h := rowKey
  generalize Try.prog.types.size = k at *
  match k, h with
  | 0, h => exact absurd h (Nat.not_lt_zero _)
  | k + 1, _ => exact ⟨k, rfl⟩
theorem keyOfP {r n : ByteArray} (hr : r.size ≤ maxLen) (hn : n.size ≤ maxLen) : keyOf Try.prog 74 (keyA r n) = some (kl r n) := by
  have hu := Try.underlying74
  have hf : (keyA r n).formed Try.prog 74 = true := by simp [Value.formed, hu, cells2]
  obtain ⟨m, hm⟩ := sizeTyP
  have hl : Try.prog.keyLits (Try.prog.types.size + 1) 74 (keyA r n).cells.toList = some [.string r.data.toList, .string n.data.toList] := by
    rw [hm]
    unfold Program.keyLits
    rw [hu]
    simp [Value.cells, cells1, cells2, keyLits_one hr, keyLits_one hn]
  unfold keyOf
  rw [hu]
  simp only [keyTyP, hf, hl, Bool.and_self, if_true, Option.map_some, kl]
theorem kl_inj {r n r' n' : ByteArray} (hr : r.size ≤ maxLen) (hn : n.size ≤ maxLen) (hr' : r'.size ≤ maxLen) (hn' : n'.size ≤ maxLen) (h : kl r n = kl r' n') : r = r' ∧ n = n' := by
  have := keyedP.inj (keyOfP hr hn) (h ▸ keyOfP hr' hn')
  simpa using this
/-- How an element reads: the block that it points to. -/
def ptrEl (v : Value) : Option (DataW Unit × List MemPlace) :=
  match v with
  | .pointer (some ⟨b, 0, none⟩) => some (.lit (.int .i64 (b : Int)), [])
  | .pointer none => some (.lit (.bool false), [])
  | _ => none
theorem ptrEl_inv {v : Value} {b : Nat} {ps : List MemPlace} (h : ptrEl v = some (.lit (.int .i64 (b : Int)), ps)) : v = ptB b := by
  unfold ptrEl at h
  split at h
  · simp at h
    have : ∀ x y : Nat, (x : Int) = (y : Int) → x = y := fun x y h => by omega
    rw [this _ _ h.1]
  · simp at h
  · simp at h
theorem ptrEl_none {v : Value} {ps : List MemPlace} (h : ptrEl v = some (.lit (.bool false), ps)) : v = .pointer none := by
  unfold ptrEl at h
  split at h
  · simp at h
  · rfl
  · simp at h
def noE : DataW Unit := .lit (.bool false)
/-- A key's texts are no longer than texts can be. -/
def KyOk (r n : ByteArray) : Prop := r.size ≤ 140737488355328 ∧ n.size ≤ 140737488355328
theorem KyOk.r {r n : ByteArray} (h : KyOk r n) : r.size ≤ maxLen := by have := h.1; unfold maxLen; omega
theorem KyOk.n {r n : ByteArray} (h : KyOk r n) : n.size ≤ maxLen := by have := h.2; unfold maxLen; omega
/-- A map that reads so holds just these entries. -/
structure MpD (D : DataW Unit) (H : HpL) : Prop where
  td : Tidy D
  sz : Maps.size D = H.length
  ok : ∀ x ∈ H, KyOk x.2.r x.2.n
  ap : H.Pairwise fun x y => ¬ (x.2.r = y.2.r ∧ x.2.n = y.2.n)
  yes : ∀ x ∈ H, Maps.has D (kl x.2.r x.2.n) = true ∧ D.atKey (kl x.2.r x.2.n) noE = .lit (.int .i64 (x.1 : Int))
  no : ∀ r n, KyOk r n → (∀ x ∈ H, ¬ (x.2.r = r ∧ x.2.n = n)) → Maps.has D (kl r n) = false
def MpM (w : World) (mb : Nat) (H : HpL) : Prop := ∃ D, w.ownsMap Try.prog 74 ptrEl mb H.length D ∧ MpD D H
section
variable {w w' : World} {mb : Nat} {H H' : HpL} {x : Nat × Ent} {r n : ByteArray}
theorem isKey_kl (r n : ByteArray) : WideAt.IsKeyLit (kl r n) := trivial
theorem owns_exact {D : DataW Unit} {k b m : Nat} (h : w.ownsMap Try.prog k ptrEl b m D) : w.ownsMap Try.prog k ptrEl b (Maps.size D) D := by
  obtain ⟨es, clock, hb, F, hs, rfl⟩ := h
  exact ⟨es, clock, hb, F, by simp [Maps.size, length_sorted], rfl⟩
theorem MpM.made (w : World) : MpM (w.alloc (.map #[] 0)) w.heap.size [] :=
  ⟨_, World.ownsMap_made w _ _ _, tidy_empty, rfl, fun x h => by simp at h, List.Pairwise.nil, fun x h => by simp at h, fun _ _ _ _ => rfl⟩
theorem MpM.kept (h : MpM w mb H) (hb : w'.heap[mb]? = w.heap[mb]?) : MpM w' mb H := by
  obtain ⟨D, ⟨es, clock, h1, h2⟩, h3⟩ := h
  exact ⟨D, ⟨es, clock, hb.trans h1, h2⟩, h3⟩
theorem MpM.lt (h : MpM w mb H) : mb < w.heap.size := by obtain ⟨D, h1, -⟩ := h; exact h1.lt
theorem MpM.ne (h : MpM w mb H) {b : Nat} {cs : Array Value} {t : TypeId} (ha : At w b cs t) : b ≠ mb := fun e => by
  obtain ⟨D, ⟨es, clock, h1, -⟩, -⟩ := h
  have h2 : w.heap[b]? = some (.cells cs t) := ha
  rw [e, h1] at h2
  cases h2
theorem MpM.perm (h : MpM w mb H) (hp : H'.Perm H) : MpM w mb H' := by
  obtain ⟨D, h1, h2⟩ := h
  refine ⟨D, by rw [hp.length_eq]; exact h1, h2.td, by rw [hp.length_eq]; exact h2.sz, fun x hx => h2.ok x (hp.mem_iff.1 hx), ?_, fun x hx => h2.yes x (hp.mem_iff.1 hx), fun r n hk hx => h2.no r n hk (fun y hy => hx y (hp.mem_iff.2 hy))⟩
  exact (hp.symm.pairwise_iff (fun {a b} hab hba => hab ⟨hba.1.symm, hba.2.symm⟩)).1 h2.ap
theorem MpM.look_yes (h : MpM w mb H) (hx : x ∈ H) : (Instr.lookup 61 (.map (some mb)) (keyA x.2.r x.2.n) true).run Try.prog w = .ok (.tuple #[ptB x.1, .bool true]) w := by
  obtain ⟨D, h1, h2⟩ := h
  have hk := h2.ok x hx
  obtain ⟨v, ps, hr, hv⟩ := h1.look_ok keyedP Try.underlying61 (zeroPtE w) (zd := noE) (zp := []) rfl (keyOfP hk.r hk.n)
  rw [(h2.yes x hx).1] at hr
  rw [(h2.yes x hx).2] at hv
  rw [ptrEl_inv hv] at hr
  exact hr
theorem MpM.look_no (h : MpM w mb H) (hk : KyOk r n) (hx : ∀ x ∈ H, ¬ (x.2.r = r ∧ x.2.n = n)) : (Instr.lookup 61 (.map (some mb)) (keyA r n) true).run Try.prog w = .ok (.tuple #[.pointer none, .bool false]) w := by
  obtain ⟨D, h1, h2⟩ := h
  obtain ⟨v, ps, hr, hv⟩ := h1.look_ok keyedP Try.underlying61 (zeroPtE w) (zd := noE) (zp := []) rfl (keyOfP hk.r hk.n)
  have hn := h2.no r n hk hx
  rw [hn] at hr
  rw [atKey_of_not_has hn] at hv
  rw [ptrEl_none hv] at hr
  exact hr
theorem MpM.len (h : MpM w mb H) (ty : TypeId) : (Builtin.len_ #[61] ty #[.map (some mb)]).run Try.prog w = .ok (.int .i64 (H.length : Int)) w := by
  obtain ⟨D, h1, h2⟩ := h
  have := h1.len Try.underlying61 ty
  rw [h2.sz] at this
  exact this
theorem MpM.store (h : MpM w mb H) (b : Nat) (e : Ent) (hk : KyOk e.r e.n) (hx : ∀ x ∈ H, ¬ (x.2.r = e.r ∧ x.2.n = e.n)) (hl : H.length < 1099511627776) :
    ∃ w', (Instr.mapUpdate 61 (.map (some mb)) (keyA e.r e.n) (ptB b)).run Try.prog w = .ok () w' ∧ MpM w' mb (H ++ [(b, e)]) ∧ w.mapTurned w' mb := by
  obtain ⟨D, h1, h2⟩ := h
  obtain ⟨w', hr, hown, ht⟩ := h1.store keyedP Try.underlying61 (by unfold maxLen; omega) (keyOfP hk.r hk.n) (val := ptB b) (d := .lit (.int .i64 (b : Int))) (ps := []) rfl
  have hno := h2.no e.r e.n hk hx
  have hne : ∀ x ∈ H, kl x.2.r x.2.n ≠ kl e.r e.n := fun x hxm he => hx x hxm (kl_inj (h2.ok x hxm).r (h2.ok x hxm).n hk.r hk.n he)
  refine ⟨w', hr, ⟨D.put (kl e.r e.n) (.lit (.int .i64 (b : Int))), by simpa using hown, h2.td.put (isKey_kl e.r e.n) _, ?_, ?_, ?_, ?_, ?_⟩, ht⟩
  · rw [size_put h2.td, hno, h2.sz]
    simp
  · intro x hxm
    rcases List.mem_append.1 hxm with hxm | hxm
    · exact h2.ok x hxm
    · obtain rfl := List.mem_singleton.1 hxm
      exact hk
  · rw [List.pairwise_append]
    refine ⟨h2.ap, by simp, fun x hxm y hy => ?_⟩
    obtain rfl := List.mem_singleton.1 hy
    exact hx x hxm
  · intro x hxm
    rcases List.mem_append.1 hxm with hxm | hxm
    · rw [has_put_other (hne x hxm), atKey_put_other (hne x hxm)]
      exact h2.yes x hxm
    · obtain rfl := List.mem_singleton.1 hxm
      exact ⟨has_put_same h2.td.isMap (isKey_kl _ _) _, atKey_put_same h2.td.isMap (isKey_kl _ _) _ _⟩
  · intro r n hkn hxx
    have hne2 : kl r n ≠ kl e.r e.n := fun he => by
      have := kl_inj hkn.r hkn.n hk.r hk.n he
      exact hxx (b, e) (by simp) ⟨this.1.symm, this.2.symm⟩
    rw [has_put_other hne2]
    exact h2.no r n hkn (fun x hxm => hxx x (by simp [hxm]))
theorem MpM.drop (h : MpM w mb H) (hp : (x :: H').Perm H) (ty : TypeId) :
    ∃ w', (Builtin.delete_ #[61, 74] ty #[.map (some mb), keyA x.2.r x.2.n]).run Try.prog w = .ok (.tuple #[]) w' ∧ MpM w' mb H' ∧ w.mapTurned w' mb := by
  have h' := h.perm hp
  obtain ⟨D, h1, h2⟩ := h'
  have hx := h2.ok x (by simp)
  obtain ⟨w', hr, hown, ht⟩ := h1.drop keyedP Try.underlying61 (keyOfP hx.r hx.n) ty
  have hap := List.pairwise_cons.1 h2.ap
  have hne : ∀ y ∈ H', kl y.2.r y.2.n ≠ kl x.2.r x.2.n := fun y hy he => by
    have := kl_inj (h2.ok y (by simp [hy])).r (h2.ok y (by simp [hy])).n hx.r hx.n he
    exact hap.1 y hy ⟨this.1.symm, this.2.symm⟩
  have hsz : Maps.size (D.del (kl x.2.r x.2.n)) = H'.length := by
    have e1 := size_del h2.td (k := kl x.2.r x.2.n)
    rw [(h2.yes x (by simp)).1, h2.sz] at e1
    simp at e1
    omega
  refine ⟨w', hr, ⟨D.del (kl x.2.r x.2.n), ?_, h2.td.del _, hsz, fun y hy => h2.ok y (by simp [hy]), hap.2, fun y hy => ?_, fun r n hkn hxx => ?_⟩, ht⟩
  · have := owns_exact hown
    rw [hsz] at this
    exact this
  · rw [has_del_other (hne y hy), atKey_del_other (hne y hy)]
    exact h2.yes y (by simp [hy])
  · by_cases e : kl r n = kl x.2.r x.2.n
    · rw [e]
      exact has_del_same
    · rw [has_del_other e]
      refine h2.no r n hkn (fun y hy => ?_)
      rcases List.mem_cons.1 hy with rfl | hy
      · rintro ⟨rfl, rfl⟩
        exact e rfl
      · exact hxx y hy
end
end Go.Proofs.Ytiggfigjibggaaa
