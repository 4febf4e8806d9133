/-
 Lists that grow by append: values, names; those of an object beside one another.
-/
import Derived.Test.YtbabdhepnjacdaaDoorTpF
import Derived.Laws.OwnMore
import Derived.Deep.DeepAppendRoom
import Derived.Deep.Onto
namespace Go.Proofs.YtbabdhepnjacdaaDoor
open Go.RowKit Go.Shelf
theorem appendV {P : Program} {w : World} {base n z bytes : Nat} {t ty e : TypeId} {i : TypeInfo} {z0 v : Value} {xs : List Value} (ht : P.underlying t = some (.slice e)) (hi : P.info? e = some i) (hz : i.zero = some z0) (hsize : i.size = z) (hby : i.bytes = bytes) (hzs : z0.cells.size = z) (hsz : 0 < z)
  (hown : w.ownsRow base e z v n xs) (a : Addr) (m c : Nat) (news : List Value) (hl : news.length = m * z) (hnews : ∀ j u, news[j]? = some u → w.cell? (a.add j) = some u) (h1 : ∀ u ∈ news, u.oneCell' = true) (h63 : n + m ≤ maxLen) (hbytes : (n + m) * bytes ≤ 140737488355328) (hbase : base ≤ w.heap.size) :
  ∃ v' w', (Builtin.append_ #[t, t] ty #[v, .slice (some a) m c]).run P w = .ok v' w' ∧ w'.ownsRow base e z v' (n + m) (xs ++ news) ∧
   ((∃ g cap, v = .slice (some ⟨g, 0, none⟩) n cap ∧ v' = .slice (some ⟨g, 0, none⟩) (n + m) cap ∧ w.grownBy w' (some g)) ∨ ((∀ g, v'.ownBlock = some g → w.heap.size ≤ g) ∧ w.grownBy w' none)) := by
 rcases hown.2 with ⟨rfl, rfl⟩ | ⟨g, cap, cur, rfl, hb, hg, hnc, hcm, hcs, htk⟩
 ·have hx : xs = [] := List.length_eq_zero_iff.1 (by rw [hown.1, Nat.zero_mul])
  subst hx
  obtain ⟨v', w', hr, s1, s2, -⟩ := run_append_own (P := P) w w.heap.size t ty e i z0 z bytes ht hi hz hsize hby hzs hsz (.slice none 0 0) 0 [] (World.ownsRow_nil w _ _ _) a m c news hl hnews h1 h63 hbytes (Nat.le_refl _)
  exact ⟨v', w', hr, s1.mono hbase, .inr ⟨fun g hg => (s1.lt g hg).1, s2⟩⟩
 ·by_cases hgr : cap < n + m
  ·obtain ⟨v', w', hr, s1, s2⟩ := run_append_arg_grows (P := P) w t ty e i z0 z bytes ht hi hz hsize hby hzs hsz ⟨g, 0, none⟩ n cap xs hown.1 (hown.cells (g := g) rfl) a m c news hl hnews hgr h63 hbytes
   exact ⟨v', w', hr, s1.mono hbase, .inr ⟨fun g hg => (s1.lt g hg).1, s2⟩⟩
  ·obtain ⟨w', hr, s1, s2⟩ := run_append_own_spare (P := P) w base t ty e i z ht hi hsize g n cap xs hown a m c news hl hnews h1 (by omega)
   exact ⟨_, w', hr, s1, .inl ⟨g, cap, rfl, rfl, s2⟩⟩
theorem info_partsV {t : TypeId} {z : Value} {n m : Nat} (h : (Tryd.prog.info? t).map (fun i => (i.zero, i.size, i.bytes)) = some (some z, n, m)) : ∃ i, Tryd.prog.info? t = some i ∧ i.zero = some z ∧ i.size = n ∧ i.bytes = m := by
 cases hi : Tryd.prog.info? t with
 | none => rw [hi] at h; cases h
 | some i => rw [hi] at h; simp at h; exact ⟨i, rfl, h.1, h.2.1, h.2.2⟩
/-- A list of names that grows. -/
def KeysG (B : Nat) (w : World) (v : Value) (ks : List ByteArray) : Prop :=
 w.ownsRow B 9 1 v ks.length (ks.map Value.string) ∧ ∀ (i : Nat) (s : ByteArray), ks[i]? = some s → s.size ≤ capT
section
variable {B : Nat} {k : Option Nat} {W W' : World} {v v' : Value} {vs : List Vt} {ks : List ByteArray}
theorem own_on {e : TypeId} {z n : Nat} {xs : List Value} (h : W.ownsRow B e z v n xs) (hs : ∀ g, v.ownBlock = some g → B ≤ g → g < W.heap.size → W'.heap[g]? = W.heap[g]?) : W'.ownsRow B e z v n xs := by
 have hlt := h.lt
 refine ⟨h.1, ?_⟩
 rcases h.2 with h2 | ⟨g, cap, cur, rfl, hb, hg, h3⟩
 ·exact .inl h2
 ·exact .inr ⟨g, cap, cur, rfl, hb, (hs g rfl hb (hlt g rfl).2).trans hg, h3⟩
theorem KeysG.nil (B : Nat) (W : World) : KeysG B W (.slice none 0 0) [] := ⟨by simpa using World.ownsRow_nil W B 9 1, fun i s h => by simp at h⟩
theorem KeysG.kept (h : KeysG B W v ks) (hs : SameOn (fun c => B ≤ c) W W') : KeysG B W' v ks := ⟨own_on h.1 (fun g _ hg hl => hs.2 g hg hl), h.2⟩
theorem own_ne {e t : TypeId} {z n b : Nat} {xs : List Value} {cs : Array Value} (h : W.ownsRow B e z v n xs) (ha : At W b cs t) (hne : t ≠ e) : v.ownBlock ≠ some b := by
 rcases h.2 with ⟨rfl, -⟩ | ⟨g, cap, cur, rfl, -, hg, -⟩
 ·intro h; cases h
 ·intro h
  obtain rfl : g = b := by simpa [Value.ownBlock] using h
  have h4 : W.heap[g]? = some (.cells cs t) := ha
  rw [h4] at hg
  simp at hg
  exact hne hg.2
theorem own_shape {e : TypeId} {z n : Nat} {xs : List Value} (h : W.ownsRow B e z v n xs) : ∃ so cap, v = .slice so n cap := by
 rcases h.2 with ⟨rfl, rfl⟩ | ⟨g, cap, cur, rfl, -⟩
 ·exact ⟨_, _, rfl⟩
 ·exact ⟨_, _, rfl⟩
theorem KeysG.shape (h : KeysG B W v ks) : ∃ so cap, v = .slice so ks.length cap := own_shape h.1
theorem KeysG.row {vo : Option Addr} {n vc : Nat} (h : KeysG B W (.slice vo n vc) ks) : n = ks.length ∧ KeysOn (fun c => B ≤ c) W vo ks := by
 obtain ⟨h1, h2⟩ := h
 obtain ⟨so, cap, e⟩ := own_shape h1
 cases e
 refine ⟨rfl, fun i s hi => ⟨h2 i s hi, ?_⟩⟩
 have hl := (List.getElem?_eq_some_iff.1 hi).1
 rcases h1.2 with ⟨e, h0⟩ | ⟨g, cap, cur, e, hb, hg, -⟩
 ·omega
 ·cases e
  refine ⟨g, 0, rfl, hb, (h1.lt g rfl).2, ?_⟩
  rw [show 0 + i = i by omega, h1.cellAt i (by omega)]
  simp [hi]
theorem grown_weaken {row : Option Nat} (h : W.grownBy W' none) : W.grownBy W' row := ⟨h.os, h.tape, h.output, h.size, fun c hc _ => h.block c hc (by simp)⟩
end
section
variable {B : Nat} {W W' : World} {kv vv kv' vv' : Value} {vs vs' : List Vt} {ks ks' : List ByteArray}
end
end Go.Proofs.YtbabdhepnjacdaaDoor
