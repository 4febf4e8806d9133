/-
  A list of calls that comes in; an append of a text whose row is the same block or a new one.
-/
import Derived.Test.YtkkmaakgacnfoaaTextsKit
import Derived.Deep.Upon
namespace Go.Proofs.Ytkkmaakgacnfoaa
open Go.ChangeShapes Go.WideShapes Go.ChangeAt Go.RowKit

/-- One call on one of two Scans. -/
structure Op5 where
  on : Int
  feed : Bool
  s : ByteArray
/-- The slice's cells hold these calls. -/
def OpsOf (w : World) (ao : Option Addr) (L : List Op5) : Prop := ∀ (i : Nat) (o : Op5), L[i]? = some o → (Lit.int .i64 o.on).wf = true ∧ ∃ b off, ao = some ⟨b, off, none⟩ ∧ b < w.heap.size ∧
  w.cell? ⟨b, off + i * 3, none⟩ = some (.int .i64 o.on) ∧ w.cell? ⟨b, off + i * 3 + 1, none⟩ = some (.bool o.feed) ∧ w.cell? ⟨b, off + i * 3 + 2, none⟩ = some (.string o.s)
def sizesO : List Op5 → Nat
  | [] => 0
  | o :: r => o.s.size + 1 + sizesO r
section
variable {H : Type} {enc : TypeId × Value → H} {w : World} {base : Nat} {spare : Nat → Bool} {held : Bool}
theorem cellsOp : Try.prog.cellsOf 33 = 3 := by kernel_rfl
/-- What is read of a call's three cells. -/
theorem open_op {fuel : Nat} {cs : List Value} {x : DataW H × List MemPlace} (h : DataW.trod enc Try.prog w base spare held fuel 33 cs = some x) :
    ∃ o : Op5, cs = [.int .i64 o.on, .bool o.feed, .string o.s] ∧ x.1 = .agg [.lit (.int .i64 o.on), .lit (.bool o.feed), .lit (.string o.s.data.toList)] ∧ (Lit.int .i64 o.on).wf = true := by
  obtain ⟨xs, n, -, hx, hl, hxs, hf⟩ := DataW.trod_struct Try.underlying33 h
  rw [cellsOp] at hl
  obtain ⟨c0, c1, c2, rfl⟩ : ∃ a b c, cs = [a, b, c] := by
    match cs, hl with
    | [a, b, c], _ => exact ⟨a, b, c, rfl⟩
  have f0 : DataW.trod enc Try.prog w base spare held n 3 ((([c0, c1, c2] : List Value).drop 0).take (Try.prog.cellsOf 3)) = xs[0]? := hf 0 _ rfl
  have f1 : DataW.trod enc Try.prog w base spare held n 4 ((([c0, c1, c2] : List Value).drop 1).take (Try.prog.cellsOf 4)) = xs[1]? := hf 1 _ rfl
  have f2 : DataW.trod enc Try.prog w base spare held n 9 ((([c0, c1, c2] : List Value).drop 2).take (Try.prog.cellsOf 9)) = xs[2]? := hf 2 _ rfl
  rw [show Try.prog.cellsOf 3 = 1 by kernel_rfl] at f0
  rw [show Try.prog.cellsOf 4 = 1 by kernel_rfl] at f1
  rw [show Try.prog.cellsOf 9 = 1 by kernel_rfl] at f2
  have hxs3 : xs.length = 3 := hxs
  obtain ⟨y0, y1, y2, rfl⟩ : ∃ a b c, xs = [a, b, c] := by
    match xs, hxs3 with
    | [a, b, c], _ => exact ⟨a, b, c, rfl⟩
  obtain ⟨z, e0, x0, hw⟩ := DataW.trod_int Try.underlying3 (show DataW.trod enc Try.prog w base spare held n 3 [c0] = some y0 from f0)
  obtain ⟨b, e1, x1⟩ := DataW.trod_bool Try.underlying4 (show DataW.trod enc Try.prog w base spare held n 4 [c1] = some y1 from f1)
  obtain ⟨s, e2, x2, _⟩ := DataW.trod_string Try.underlying9 (show DataW.trod enc Try.prog w base spare held n 9 [c2] = some y2 from f2)
  refine ⟨⟨z, b, s⟩, ?_, ?_, hw⟩
  · simp at e0 e1 e2
    rw [e0, e1, e2]
  · rw [hx, x0, x1, x2]
    rfl
def OpsD {H : Type} (d : DataW H) (L : List Op5) : Prop := L = [] ∨ ∃ el sp, d = .slice el sp ∧ el = L.map fun o => .agg [.lit (.int .i64 o.on), .lit (.bool o.feed), .lit (.string o.s.data.toList)]
theorem open_ops {r : Reach} {b0 : Nat} {v : Value} {d : DataW H} {ps : List MemPlace} (hval : Value.okWide Try.prog w r b0 24 v) (hd : DataW.Trod enc Try.prog w base spare held 24 v d ps) :
    ∃ (ao : Option Addr) (cap : Nat) (L : List Op5), v = .slice ao L.length cap ∧ OpsOf w ao L ∧ OpsD d L := by
  obtain ⟨ao, len, cap, rfl⟩ := okWide_slice Try.underlying24 hval
  obtain ⟨fuel, hf⟩ := hd
  rcases DataW.trod_slice Try.underlying24 hf with ⟨hcs, _⟩ | ⟨a, len', cap', elems, rest, n, _, hcs, hx, hb, hl, hm, hlen, hel, -, -⟩
  · simp [Value.cells] at hcs
    obtain ⟨rfl, rfl, rfl⟩ := hcs
    exact ⟨none, 0, [], rfl, fun i o h => by simp at h, .inl rfl⟩
  · simp [Value.cells] at hcs
    obtain ⟨rfl, rfl, rfl⟩ := hcs
    have each : ∀ i, i < len → ∃ o : Op5, w.cells? base (a.add (i * 3)) 3 = some [.int .i64 o.on, .bool o.feed, .string o.s] ∧ (elems[i]?).map (·.1) = some (.agg [.lit (.int .i64 o.on), .lit (.bool o.feed), .lit (.string o.s.data.toList)]) ∧ (Lit.int .i64 o.on).wf = true := by
      intro i hi
      have h := hel i hi
      rw [cellsOp, List.getElem?_eq_getElem (by omega), Option.bind_eq_some_iff] at h
      obtain ⟨cs, h1, h2⟩ := h
      obtain ⟨o, rfl, ho, hw⟩ := open_op h2
      exact ⟨o, h1, by rw [List.getElem?_eq_getElem (by omega)]; simp [ho], hw⟩
    have pick : ∃ L : List Op5, L.length = len ∧ ∀ i o, L[i]? = some o → w.cells? base (a.add (i * 3)) 3 = some [.int .i64 o.on, .bool o.feed, .string o.s] ∧ (elems[i]?).map (·.1) = some (.agg [.lit (.int .i64 o.on), .lit (.bool o.feed), .lit (.string o.s.data.toList)]) ∧ (Lit.int .i64 o.on).wf = true := by
      have key : ∀ k, k ≤ len → ∃ L : List Op5, L.length = k ∧ ∀ (i : Nat) (o : Op5), L[i]? = some o → w.cells? base (a.add (i * 3)) 3 = some [.int .i64 o.on, .bool o.feed, .string o.s] ∧ (elems[i]?).map (·.1) = some (.agg [.lit (.int .i64 o.on), .lit (.bool o.feed), .lit (.string o.s.data.toList)]) ∧ (Lit.int .i64 o.on).wf = true := by
        intro k
        induction k with
        | zero => exact fun _ => ⟨[], rfl, fun i o h => by simp at h⟩
        | succ k ih =>
          intro hk
          obtain ⟨L, hL, hall⟩ := ih (by omega)
          obtain ⟨o, ho⟩ := each k (by omega)
          refine ⟨L ++ [o], by simp [hL], fun i o' h => ?_⟩
          by_cases hi : i < k
          · rw [List.getElem?_append_left (by omega)] at h
            exact hall i o' h
          · have hi2 := (List.getElem?_eq_some_iff.1 h).1
            rw [List.length_append, List.length_cons, List.length_nil] at hi2
            obtain rfl : i = k := by omega
            rw [List.getElem?_append_right (by omega), hL] at h
            simp at h
            subst h
            exact ho
      exact key len (Nat.le_refl _)
    obtain ⟨L, hL, hall⟩ := pick
    refine ⟨some a, cap, L, by rw [hL], fun i o hi => ?_, .inr ⟨_, _, congrArg Prod.fst hx, ?_⟩⟩
    · obtain ⟨h1, -, hw⟩ := hall i o hi
      have hc := World.cells?_some h1
      obtain ⟨b, off, spot⟩ := a
      have c0 := hc.2.2 0 (by decide)
      have c1 := hc.2.2 1 (by decide)
      have c2 := hc.2.2 2 (by decide)
      have hspot : spot = none := by
        have hi2 := (List.getElem?_eq_some_iff.1 hi).1
        obtain ⟨o0, ho0⟩ : ∃ o0, L[0]? = some o0 := ⟨_, List.getElem?_eq_getElem (by omega)⟩
        have := World.cell?_spot ((World.cells?_some (hall 0 o0 ho0).1).2.2 0 (by decide))
        simpa [Addr.add] using this
      subst hspot
      have e : ∀ k, ((⟨b, off, none⟩ : Addr).add (i * 3)).add k = ⟨b, off + i * 3 + k, none⟩ := by
        intro k
        by_cases h : i * 3 = 0 <;> by_cases h' : k = 0 <;> simp [Addr.add, h, h']
      rw [e] at c0 c1 c2
      exact ⟨hw, b, off, rfl, cell_lt5 c0, c0, c1, c2⟩
    · apply List.ext_getElem?
      intro i
      rw [List.getElem?_map, List.getElem?_map]
      cases hi : L[i]? with
      | none => rw [List.getElem?_eq_none (by have := List.getElem?_eq_none_iff.1 hi; omega)]; rfl
      | some o => exact (hall i o hi).2.1
end
theorem bulk_ops {H : Type} {d : DataW H} {L : List Op5} (h : OpsD d L) : sizesO L ≤ Rows.uptoBulk d := by
  rcases h with rfl | ⟨el, sp, rfl, rfl⟩
  · exact Nat.zero_le _
  · have key : ∀ L : List Op5, sizesO L ≤ Rows.uptoBulkAll (L.map fun o => (DataW.agg [.lit (.int .i64 o.on), .lit (.bool o.feed), .lit (.string o.s.data.toList)] : DataW H)) := by
      intro L
      induction L with
      | nil => exact Nat.zero_le _
      | cons o r ih =>
        have e : o.s.data.toList.length = o.s.size := (by rw [Array.length_toList]; rfl)
        rw [List.map_cons]
        simp only [sizesO, Rows.uptoBulkAll, Rows.uptoBulk]
        omega
    have := key L
    simp only [Rows.uptoBulk]
    omega
/-- An append of a text: its row is the same block, or a new one. -/
theorem append_str_apart {w : World} {base : Nat} {ty : TypeId} {v : Value} {S t : ByteArray} (hown : w.ownsRow base 5 1 v S.size (Lib.strCells S)) (hsz : S.size + t.size ≤ 4194304) (hbase : base ≤ w.heap.size) :
    ∃ v' w', (Builtin.append_ #[27, 9] ty #[v, .string t]).run Try.prog w = .ok v' w' ∧ w'.ownsRow base 5 1 v' (S ++ t).size (Lib.strCells (S ++ t)) ∧ w.grownBy w' v.ownBlock ∧ (v'.ownBlock = v.ownBlock ∨ ∃ g, v'.ownBlock = some g ∧ w.heap.size ≤ g) := by
  obtain ⟨i0, hi, hz0, hz1, hz2⟩ := info_parts infoU8
  obtain ⟨v', w', hr, r1, r2, -⟩ := Lib.run_append_own_string (P := Try.prog) w base 27 9 ty 5 i0 Try.underlying27 Try.underlying9 hi hz0 hz1 hz2 v S.size (Lib.strCells S) hown t (by unfold maxLen; omega) (by omega) hbase
  rw [← strCells_append, ← ByteArray.size_append] at r1
  refine ⟨v', w', hr, r1, r2, ?_⟩
  rcases hown.2 with ⟨rfl, h0⟩ | ⟨g, cap, cur, rfl, hb, hg, hnc, hcm, hcs, htk⟩
  · have hown0 : w.ownsRow w.heap.size 5 1 (.slice none 0 0) 0 [] := World.ownsRow_nil _ _ _ _
    obtain ⟨v2, w2, hr2, s1, -, -⟩ := Lib.run_append_own_string (P := Try.prog) w w.heap.size 27 9 ty 5 i0 Try.underlying27 Try.underlying9 hi hz0 hz1 hz2 (.slice none 0 0) 0 [] hown0 t (by unfold maxLen; omega) (by omega) (Nat.le_refl _)
    rw [hr] at hr2
    obtain ⟨rfl, rfl⟩ : v' = v2 ∧ w' = w2 := by simpa using hr2
    rcases s1.2 with ⟨rfl, _⟩ | ⟨g, cap, cur, rfl, hg, _⟩
    · exact .inl rfl
    · exact .inr ⟨g, rfl, hg⟩
  · by_cases hroom : S.size + t.size ≤ cap
    · have hr2 := Lib.run_append_room_string (P := Try.prog) w 27 9 ty 5 i0 Try.underlying27 Try.underlying9 hi hz1 g S.size cap cur hg t hroom (by omega)
      rw [hr] at hr2
      obtain ⟨rfl, -⟩ : v' = _ ∧ w' = _ := by simpa using hr2
      exact .inl rfl
    · have hcells := hown.cells (g := g) rfl
      have hr2 := Lib.run_append_grow_string (P := Try.prog) w 27 9 ty 5 i0 (.int .u8 0) Try.underlying27 Try.underlying9 hi hz0 ⟨g, 0, none⟩ S.size cap (Lib.strCells S) (by rw [hz1, Nat.mul_one, Lib.strCells_length]) hcells t (by omega) (by omega) (by rw [hz2]; exact growslice_fits (by omega) (by omega))
      rw [hr] at hr2
      obtain ⟨rfl, -⟩ : v' = _ ∧ w' = _ := by simpa using hr2
      exact .inr ⟨_, rfl, Nat.le_refl _⟩

theorem new_block5 (w : World) (o : Obj) : (w.alloc o).heap[w.heap.size]? = some o := by show (w.heap.push o)[w.heap.size]? = _; simp
/-- A row of bytes: one that is owned, or one that a constant text was turned into (with a mark, and no room). -/
def RowG (w : World) (B : Nat) (v : Value) (S : ByteArray) : Prop := w.ownsRow B 5 1 v S.size (Lib.strCells S) ∨ ∃ g cur fz, v = .slice (some ⟨g, 0, none⟩) S.size S.size ∧ B ≤ g ∧ w.heap[g]? = some (.cells cur 5 fz) ∧ cur.toList = Lib.strCells S
section
variable {w w' : World} {B : Nat} {v : Value} {S : ByteArray}
theorem RowG.lt (h : RowG w B v S) : ∀ k, v.ownBlock = some k → B ≤ k ∧ k < w.heap.size := by
  rcases h with h | ⟨g, cur, fz, rfl, h1, h2, _⟩
  · exact h.lt
  · intro k hk
    have : g = k := by simpa [Value.ownBlock] using hk
    subst this
    exact ⟨h1, (Array.getElem?_eq_some_iff.1 h2).1⟩
theorem RowG.of (h : RowG w B v S) (hh : ∀ k, v.ownBlock = some k → w'.heap[k]? = w.heap[k]?) : RowG w' B v S := by
  rcases h with ⟨h1, h2 | ⟨g, cap, cur, rfl, h4, h5, h6⟩⟩ | ⟨g, cur, fz, rfl, h1, h2, h3⟩
  · exact .inl ⟨h1, .inl h2⟩
  · exact .inl ⟨h1, .inr ⟨g, cap, cur, rfl, h4, (hh g rfl).trans h5, h6⟩⟩
  · exact .inr ⟨g, cur, fz, rfl, h1, (hh g rfl).trans h2, h3⟩
theorem RowG.below (h : RowG w B v S) (hb : Below w.heap.size w w') : RowG w' B v S := h.of fun k hk => hb.block k (h.lt k hk).2
theorem RowG.but (h : RowG w B v S) {b : Nat} (hO : ∀ c, c ≠ b → w'.heap[c]? = w.heap[c]?) (hb : b < B) : RowG w' B v S := h.of fun k hk => hO k (by have := (h.lt k hk).1; omega)
theorem RowG.kept (h : RowG w B v S) {row : Option Nat} (hg : w.grownBy w' row) (hne : v.ownBlock = none ∨ v.ownBlock ≠ row) : RowG w' B v S := h.of fun k hk => hg.block k (h.lt k hk).2 (fun e => by
  rcases hne with h0 | h0
  · rw [h0] at hk; cases hk
  · exact h0 (hk.trans e))
theorem RowG.slice (h : RowG w B v S) : ∃ ao cap, v = .slice ao S.size cap := by
  rcases h with ⟨h1, ⟨rfl, h0⟩ | ⟨g, cap, cur, rfl, _⟩⟩ | ⟨g, cur, fz, rfl, _⟩
  · exact ⟨none, 0, by rw [h0]⟩
  · exact ⟨_, cap, rfl⟩
  · exact ⟨_, _, rfl⟩
theorem RowG.conv (h : RowG w B v S) : (convert 27 9 v).run Try.prog w = .ok (.string S) w := by
  rcases h with h | ⟨g, cur, fz, rfl, h1, h2, h3⟩
  · exact conv_row h
  · have hl : S.size = S.data.toList.length := by rw [Array.length_toList]; rfl
    have hr := run_convert_bytes_back (P := Try.prog) w 27 9 5 ⟨g, 0, none⟩ S.size S.data.toList Try.underlying27 Try.underlying5 Try.underlying9 (fun j hj => by
      have e : (⟨g, 0, none⟩ : Addr).add j = ⟨g, j, none⟩ := by by_cases h : j = 0 <;> simp [Addr.add, h]
      have hc : cur[j]? = some (.int .u8 (S.data.toList[j].toNat : Int)) := by
        rw [← Array.getElem?_toList, h3]
        unfold Lib.strCells
        rw [List.getElem?_map, List.getElem?_eq_getElem hj]
        rfl
      rw [e]
      simp [World.cell?, h2, hc])
    rw [← hl] at hr
    exact hr
theorem RowG.append (h : RowG w B v S) {ty : TypeId} {t : ByteArray} (hsz : S.size + t.size ≤ 4194304) (hB : B ≤ w.heap.size) :
    ∃ v' w', (Builtin.append_ #[27, 9] ty #[v, .string t]).run Try.prog w = .ok v' w' ∧ RowG w' B v' (S ++ t) ∧ w.grownBy w' v.ownBlock ∧ (v'.ownBlock = v.ownBlock ∨ ∃ g, v'.ownBlock = some g ∧ w.heap.size ≤ g) := by
  rcases h with h | ⟨g, cur, fz, rfl, h1, h2, h3⟩
  · obtain ⟨v', w', a, b, c, d⟩ := append_str_apart (ty := ty) h hsz hB
    exact ⟨v', w', a, .inl b, c, d⟩
  · obtain ⟨i0, hi, hz0, hz1, hz2⟩ := info_parts infoU8
    by_cases h0 : t.size = 0
    · have ht : t = ByteArray.empty := by
        apply byts_inj
        have := byts_length t
        rw [h0] at this
        rw [List.eq_nil_of_length_eq_zero this]
        rfl
      subst ht
      have hS : S ++ ByteArray.empty = S := by apply byts_inj; rw [byts_append]; exact List.append_nil _
      refine ⟨.slice (some ⟨g, 0, none⟩) S.size S.size, w, ?_, ?_, ⟨rfl, rfl, rfl, Nat.le_refl _, fun _ _ _ => rfl⟩, .inl rfl⟩
      · have hs := Src.ofString (P := Try.prog) w (tx := 9) Try.underlying9 ByteArray.empty
        exact run_append_nothing (P := Try.prog) w 27 9 ty 5 i0 Try.underlying27 hi (some ⟨g, 0, none⟩) S.size S.size (Nat.le_refl _) (.string ByteArray.empty) (by rw [hz1]; exact hs)
      · rw [hS]
        exact .inr ⟨g, cur, fz, rfl, h1, h2, h3⟩
    · have hcells : ∀ j u, (Lib.strCells S)[j]? = some u → w.cell? ((⟨g, 0, none⟩ : Addr).add j) = some u := by
        intro j u hj
        have e : (⟨g, 0, none⟩ : Addr).add j = ⟨g, j, none⟩ := by by_cases h : j = 0 <;> simp [Addr.add, h]
        rw [← h3, Array.getElem?_toList] at hj
        rw [e]
        simp [World.cell?, h2, hj]
      have hr := Lib.run_append_grow_string (P := Try.prog) w 27 9 ty 5 i0 (.int .u8 0) Try.underlying27 Try.underlying9 hi hz0 ⟨g, 0, none⟩ S.size S.size (Lib.strCells S) (by rw [hz1, Nat.mul_one, Lib.strCells_length]) hcells t (by omega) (by omega) (by rw [hz2]; exact growslice_fits (by omega) (by omega))
      refine ⟨_, _, hr, .inl ?_, ⟨rfl, rfl, rfl, by simp, fun k hk _ => Below.heap_alloc w.drew _ k hk⟩, .inr ⟨_, rfl, Nat.le_refl _⟩⟩
      have hge := grownCap_ge w (S.size + t.size) S.size 5
      have hcm2 : grownCap w (S.size + t.size) S.size 5 ≤ maxLen := grownCap_le_maxLen w (S.size + t.size) S.size 5 (by unfold maxLen; omega)
      rw [ByteArray.size_append, strCells_append]
      refine ⟨by rw [List.length_append, Lib.strCells_length, Lib.strCells_length, Nat.mul_one], .inr ⟨w.heap.size, _, _, rfl, hB, new_block5 w.drew _, hge, hcm2, ?_, ?_⟩⟩
      · have hz1 : (Value.int IntKind.u8 0).cells.size = 1 := rfl
        simp only [Array.size_append, List.size_toArray, size_zeroCells, hz1, Lib.strCells_length]
        omega
      · simp only [Array.toList_append, List.append_assoc]
        rw [← List.append_assoc]
        have hl : (Lib.strCells S ++ Lib.strCells t).length = (S.size + t.size) * 1 := by rw [List.length_append, Lib.strCells_length, Lib.strCells_length, Nat.mul_one]
        rw [← hl]
        exact List.take_left
end
end Go.Proofs.Ytkkmaakgacnfoaa
