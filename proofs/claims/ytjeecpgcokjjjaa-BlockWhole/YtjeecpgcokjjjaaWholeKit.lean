/-
  The row of bytes that BlockWhole gathers, and what keeps it.
-/
import Derived.Test.YtjeecpgcokjjjaaRoundKit
import Derived.Test.YtjeecpgcokjjjaaBlockSeq
import Derived.Laws.BytesArg
import Derived.Laws.IdiomStrings
namespace Go.Proofs.Ytjeecpgcokjjjaa
open Go.RowKit Go.Shelf

/-- The first k bytes of a text, as cells. -/
def upTo (s : ByteArray) (k : Nat) : List Value := (List.range k).map fun i => .int .u8 ((byteAt s i : Nat) : Int)
theorem upTo_succ (s : ByteArray) (k : Nat) : upTo s k ++ [.int .u8 ((byteAt s k : Nat) : Int)] = upTo s (k + 1) := by
  unfold upTo
  rw [List.range_succ, List.map_append]
  rfl
theorem upTo_length (s : ByteArray) (k : Nat) : (upTo s k).length = k := by simp [upTo]

/-- Block m is the variable of the gathered bytes: the first K of the text, in a row that lies beyond B. -/
def Gath (W : World) (m B : Nat) (s : ByteArray) (K : Nat) : Prop := ∃ v, At W m #[v] 47 ∧ W.ownsRow B 5 1 v K (upTo s K)

section
variable {W W' : World} {m B : Nat} {s : ByteArray} {K : Nat}
theorem row_block {v : Value} {xs : List Value} (h : W.ownsRow B 5 1 v K xs) : v.ownBlock = none ∨ ∃ g cur, v.ownBlock = some g ∧ B ≤ g ∧ W.heap[g]? = some (.cells cur 5 (0, 0)) := by
  rcases h.2 with ⟨rfl, _⟩ | ⟨g, cap, cur, rfl, hb, hgb, _⟩
  · exact .inl rfl
  · exact .inr ⟨g, cur, rfl, hb, hgb⟩
theorem row_ne {v : Value} {xs : List Value} (h : W.ownsRow B 5 1 v K xs) {b : Nat} {cs : Array Value} {t : TypeId} (ha : At W b cs t) (hd : t ≠ 5 ∨ b < B) : some b ≠ v.ownBlock := by
  rcases row_block h with e | ⟨g, cur, e, hb, hg⟩
  · rw [e]; simp
  · rw [e]
    rintro h'
    obtain rfl : b = g := by simpa using h'
    rcases hd with hd | hd
    · have hh : W.heap[b]? = some (.cells cs t) := ha
      rw [hh] at hg
      cases hg
      exact hd rfl
    · omega
theorem row_kept {v : Value} {xs : List Value} (h : W.ownsRow B 5 1 v K xs) {row : Option Nat} (hg : W.grownBy W' row) (hne : v.ownBlock = none ∨ row ≠ v.ownBlock) : W'.ownsRow B 5 1 v K xs := by
  refine ⟨h.1, ?_⟩
  rcases h.2 with h2 | ⟨g, cap, cur, rfl, hb, hgb, h3⟩
  · exact .inl h2
  · refine .inr ⟨g, cap, cur, rfl, hb, (hg.block g (Array.getElem?_eq_some_iff.1 hgb).1 ?_).trans hgb, h3⟩
    rcases hne with hne | hne
    · cases hne
    · exact fun e => hne e.symm
theorem Gath.kept (h : Gath W m B s K) (hb : Below W.heap.size W W') : Gath W' m B s K := by
  obtain ⟨v, h1, h2⟩ := h
  refine ⟨v, h1.keptAll hb, ?_⟩
  rcases row_block h2 with e | ⟨g, cur, e, _⟩
  · exact row_kept h2 (grown_of_below hb) (.inl e)
  · exact row_kept h2 (grown_of_below hb) (.inr (by rw [e]; simp))
theorem Gath.own (h : Gath W m B s K) {row : Option Nat} (hg : W.grownBy W' row) (hr : ∀ r, row = some r → ∃ o : Obj, W.heap[r]? = some o ∧ o.isCells = false) : Gath W' m B s K := by
  obtain ⟨v, h1, h2⟩ := h
  refine ⟨v, h1.own hg hr, ?_⟩
  rcases row_block h2 with e | ⟨g, cur, e, _, hgb⟩
  · exact row_kept h2 hg (.inl e)
  · refine row_kept h2 hg (.inr fun e' => ?_)
    obtain ⟨o, ho, hc⟩ := hr g (by rw [e', e])
    rw [hgb] at ho
    cases ho
    cases hc
theorem Gath.other (h : Gath W m B s K) {b : Nat} (hm : m ≠ b) (hb : b < B) (v' : Value) : Gath (W.setCell ⟨b, 0, none⟩ v') m B s K := by
  obtain ⟨v, h1, h2⟩ := h
  refine ⟨v, h1.other (p := ⟨b, 0, none⟩) hm v', row_kept h2 (grownBy_setCell' W b v') ?_⟩
  rcases row_block h2 with e | ⟨g, cur, e, hg, _⟩
  · exact .inl e
  · refine .inr ?_
    rw [e]
    intro h'
    have : b = g := by simpa using h'
    omega
theorem Gath.nil (h : At W m #[.slice none 0 0] 47) : Gath W m B s 0 := ⟨_, h, by refine ⟨rfl, .inl ⟨rfl, rfl⟩⟩⟩

/-- Behind all = append(all, x). -/
theorem gath_append {v v' x : Value} {xs ys : List Value} {w2 : World} (hv : At W m #[v] 47) (hrow : W.ownsRow B 5 1 v K xs) (hB : B ≤ W.heap.size) (hm : m < B)
    (hown' : w2.ownsRow B 5 1 v' (K + 1) ys) (hg : (W.alloc (.cells #[x] 5)).grownBy w2 v.ownBlock) :
    At w2 m #[v] 47 ∧ At (w2.setCell ⟨m, 0, none⟩ v') m #[v'] 47 ∧ (w2.setCell ⟨m, 0, none⟩ v').ownsRow B 5 1 v' (K + 1) ys ∧ KeepsOthers W (w2.setCell ⟨m, 0, none⟩ v') ∧
      Below m W (w2.setCell ⟨m, 0, none⟩ v') ∧ ∀ b cs t, At W b cs t → b ≠ m → (t ≠ 5 ∨ b < B) → At w2 b cs t ∧ At (w2.setCell ⟨m, 0, none⟩ v') b cs t := by
  have hmono : ∀ {Wq : World} {vq : Value} {k : Nat} {zs : List Value}, Wq.ownsRow B 5 1 vq k zs → Wq.ownsRow m 5 1 vq k zs := by
    rintro Wq vq k zs ⟨h1, h2 | ⟨g, cap, cur, h3, h4, h5⟩⟩
    · exact ⟨h1, .inl h2⟩
    · exact ⟨h1, .inr ⟨g, cap, cur, h3, by omega, h5⟩⟩
  have hne : (47 : TypeId) ≠ 5 := by decide
  obtain ⟨a1, a2, _, a4, a5⟩ := Boxed.appended (B := m) (n₀ := m) (t := 47) (tmp := .cells #[x] 5) hv hne (hmono hrow) (by omega) (Nat.le_refl _) (hmono hown') hg
  refine ⟨a1, a2, ?_, a4, a5, fun b cs t hb hbm hd => ?_⟩
  · refine row_kept hown' (grownBy_setCell' w2 m v') (.inr ?_)
    exact row_ne hown' (b := m) (cs := #[v]) a1 (.inl hne)
  · have h1 : At w2 b cs t := (hg.block b (hb.alloc (.cells #[x] 5)).lt (row_ne hrow hb hd)).trans (hb.alloc _)
    exact ⟨h1, h1.other (p := ⟨m, 0, none⟩) hbm v'⟩
end

theorem info1 : (Try.prog.info? 5).map (fun i => (i.zero, i.size, i.bytes)) = some (some (.int .u8 0), 1, 1) := by kernel_rfl
/-- all = append(all, x): the append, behind the block that bears x. -/
theorem wp_gather {o : Oper} {a : Act} {K : Act → World → Prop} {Q : Exit → Act → World → Prop} {W : World} {y z : Operand} {B k : Nat} {s : ByteArray} {v : Value}
    (ho : o.op = .call { callee := .builtin .append, args := #[y, z], argTypes := #[47, 47] }) (hy : a.eval y = v) (hz : a.eval z = .slice (some ⟨W.heap.size, 0, none⟩) 1 1)
    (hrow : W.ownsRow B 5 1 v k (upTo s k)) (hk : k < 140737488355328) (hB : B ≤ W.heap.size)
    (h : ∀ g' cap w', w'.ownsRow B 5 1 (.slice (some ⟨g', 0, none⟩) (k + 1) cap) (k + 1) (upTo s (k + 1)) → (W.alloc (.cells #[.int .u8 ((byteAt s k : Nat) : Int)] 5)).grownBy w' v.ownBlock → K (a.put o.dst (.slice (some ⟨g', 0, none⟩) (k + 1 : Nat) cap)) w') :
    o.wp Try.prog a (W.alloc (.cells #[.int .u8 ((byteAt s k : Nat) : Int)] 5)) K Q := by
  obtain ⟨i, hi, hz0, hz1, hz2⟩ := info_parts info1
  refine wp_append_own (P := Try.prog) _ y z 47 ho B 5 i (.int .u8 0) 1 1 Try.underlying47 hi hz0 hz1 hz2 rfl (by decide) v k (upTo s k) hy ?_ ⟨W.heap.size, 0, none⟩ 1 1 [.int .u8 ((byteAt s k : Nat) : Int)] hz rfl (cell_one_new _ _ _) (by simp [Value.oneCell']) (by unfold maxLen; omega) (by omega) (by simp; omega) ?_
  · refine row_kept hrow (World.grownBy_alloc W _ none) ?_
    rcases row_block hrow with e | ⟨g, cur, e, _⟩
    · exact .inl e
    · exact .inr (by rw [e]; simp)
  · intro v' w' h1 h2 _
    rw [upTo_succ] at h1
    obtain ⟨g', cap, rfl⟩ := ownsRow_succ h1
    exact h g' cap w' h1 h2

/-- string(all), where all of the text has been gathered. -/
theorem conv_row {W : World} {B : Nat} {v : Value} (s : ByteArray) (h : W.ownsRow B 5 1 v s.size (upTo s s.size)) : (convert 47 9 v).run Try.prog W = .ok (.string s) W := by
  have hl : s.data.toList.length = s.size := by rw [Array.length_toList]; rfl
  rcases h.2 with ⟨rfl, h0⟩ | ⟨g, cap, cur, rfl, _⟩
  · rw [run_convert_bytes_nil (P := Try.prog) W 47 5 Try.underlying47 Try.underlying5 0 0 9 Try.underlying9]
    have : s = ByteArray.empty := by
      have h1 : s.data = #[] := Array.eq_empty_of_size_eq_zero h0
      cases s
      simp only at h1
      subst h1
      rfl
    rw [this]
  · have hb := run_convert_bytes_back (P := Try.prog) W 47 9 5 ⟨g, 0, none⟩ cap s.data.toList Try.underlying47 Try.underlying5 Try.underlying9 (fun j hj => ?_)
    · rw [hl] at hb
      simpa using hb
    · have hj' : j < s.size := by omega
      have hc := World.ownsRow.cells h (g := g) rfl j (.int .u8 ((byteAt s j : Nat) : Int)) (by simp [upTo, hj'])
      rw [hc]
      have hd : j < s.data.size := hj'
      unfold byteAt
      rw [Array.getElem?_eq_getElem hd]
      rfl
end Go.Proofs.Ytjeecpgcokjjjaa
