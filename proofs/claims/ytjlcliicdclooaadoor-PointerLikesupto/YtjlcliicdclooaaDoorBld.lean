/-
 strings.Builder, as package marks takes it: copyCheck, WriteString, String.
-/
import Derived.Test.YtjlcliicdclooaaDoorPack1
import Derived.Test.YtjlcliicdclooaaDoorKitB
import Derived.Lib.Builder
import Derived.Lib.AppendStr
import Derived.Lib.UnsafeStr
import Derived.Laws.Externs
import Derived.Shelf.RegionOpenPlain
namespace Go.Proofs.YtjlcliicdclooaaDoor
open Go.RowKit Go.Shelf
theorem sizeBd : (Tryd.prog.info? 49).map (·.size) = some 2 := by kernel_rfl
theorem liesBd : liesAt Tryd.prog Tryd.prog.depth 49 (2 / Tryd.prog.cellsOf 49) 0 49 1 = true := by kernel_rfl
theorem infoBy : (Tryd.prog.info? 5).map (fun i => (i.zero, i.size, i.bytes)) = some (some (.int .u8 0), 1, 1) := by kernel_rfl
theorem cellsBy : Tryd.prog.cellsOf 5 = 1 := by kernel_rfl
theorem shapeBd {w : World} {m : Nat} {p v : Value} (h : At w m #[p, v] 49) : w.shape? m = some (49, 2) := by
 have h' : w.heap[m]? = some (.cells #[p, v] 49) := h
 simp [World.shape?, h']
set_option maxRecDepth 100000 in
set_option maxHeartbeats 1000000 in
theorem bcheck_used (m : Nat) (v : Value) (w : World) (h : At w m #[.pointer (some ⟨m, 0, none⟩), v] 49) :
  Calls Tryd.prog 35 #[.pointer (some ⟨m, 0, none⟩)] w fun e w' => e = .returned (.tuple #[]) ∧ w' = w := by
 obtain ⟨j, hj, -⟩ := Option.map_eq_some_iff.1 sizeBd
 have c0 := h.cell 0
 simp only [List.getElem?_toArray, List.getElem?_cons_zero] at c0
 go_enter Tryd.func35, Tryd.ntmps35
 go_wp2
 rw [Lib.run_neq_ptr_same w _ Tryd.underlying46 hj]
 go_wp2
 go_end0
 exact ⟨rfl, rfl⟩
set_option maxRecDepth 100000 in
set_option maxHeartbeats 1000000 in
theorem bcheck_fresh (m : Nat) (v : Value) (w : World) (h : At w m #[.pointer none, v] 49) :
  Calls Tryd.prog 35 #[.pointer (some ⟨m, 0, none⟩)] w fun e w' => e = .returned (.tuple #[]) ∧ w' = w.setCell ⟨m, 0, none⟩ (.pointer (some ⟨m, 0, none⟩)) := by
 obtain ⟨j, hj, hjs⟩ := Option.map_eq_some_iff.1 sizeBd
 have hsh := shapeBd h
 have c0 := h.cell 0
 have f0 := h.frozen 0
 simp only [List.getElem?_toArray, List.getElem?_cons_zero] at c0
 go_enter Tryd.func35, Tryd.ntmps35
 go_wp2
 rw [Lib.run_to_unsafe w ⟨m, 0, none⟩ Tryd.underlying46 Tryd.underlying75 hj (by rw [hjs]; decide) hsh (Nat.zero_lt_succ 1)]
 simp only [Result.andThen]
 rw [Oper.upon_value]
 go_wp2
 rw [run_callFunc_extern Tryd.func49 (by kernel_rfl) (by kernel_rfl) (by kernel_rfl) (e := Extern.AbiNoEscape.same) (by kernel_rfl)]
 rw [Lib.run_noEscape]
 simp only [Result.andThen]
 rw [Oper.upon_value]
 go_wp2
 rw [Lib.run_from_unsafe w ⟨m, 0, none⟩ Tryd.underlying75 Tryd.underlying46 hj hsh liesBd]
 simp only [Result.andThen]
 rw [Oper.upon_value]
 go_wp2
 go_end0
 exact ⟨rfl, rfl⟩
/-- The builder in block m holds these bytes; their row lies from B on. -/
def BdI (W : World) (m B : Nat) (l : List UInt8) : Prop := ∃ p v, At W m #[p, v] 49 ∧ (p = .pointer none ∨ p = .pointer (some ⟨m, 0, none⟩)) ∧ W.ownsRow B 5 1 v l.length (Lib.byteCells l)
/-- Its row isn't block b. -/
def SafeB (m b : Nat) (W : World) : Prop := ∃ p v, At W m #[p, v] 49 ∧ v.ownBlock ≠ some b
section
variable {W W' : World} {m B : Nat} {l : List UInt8}
theorem rowY_block {v : Value} {n : Nat} {xs : List Value} (h : W.ownsRow B 5 1 v n xs) : v.ownBlock = none ∨ ∃ g cur, v.ownBlock = some g ∧ B ≤ g ∧ W.heap[g]? = some (.cells cur 5 (0, 0)) := by
 rcases h.2 with ⟨rfl, _⟩ | ⟨g, cap, cur, rfl, hb, hgb, _⟩
 ·exact .inl rfl
 ·exact .inr ⟨g, cur, rfl, hb, hgb⟩
theorem BdI.kept (h : BdI W m B l) (hb : Below W.heap.size W W') : BdI W' m B l := by
 obtain ⟨p, v, h1, hp, h2⟩ := h
 refine ⟨p, v, h1.keptAll hb, hp, h2.kept (grown_of_below hb) ?_⟩
 rcases rowY_block h2 with e | ⟨g, cur, e, _⟩
 ·exact .inl e
 ·exact .inr (by rw [e]; simp)
theorem BdI.own (h : BdI W m B l) {row : Option Nat} (hg : W.grownBy W' row) (hr : ∀ r, row = some r → ∃ o : Obj, W.heap[r]? = some o ∧ o.isCells = false) : BdI W' m B l := by
 obtain ⟨p, v, h1, hp, h2⟩ := h
 refine ⟨p, v, h1.own hg hr, hp, h2.kept hg ?_⟩
 rcases rowY_block h2 with e | ⟨g, cur, e, _, hgb⟩
 ·exact .inl e
 ·refine .inr fun e' => ?_
  obtain ⟨o, ho, hc⟩ := hr g (by rw [← e', e])
  rw [hgb] at ho
  cases ho
  cases hc
theorem BdI.good (h : BdI W m B l) {g : Nat} (hg : g < B) : (∀ o, SafeB m W.heap.size (W.alloc o)) ∧ SafeB m g W := by
 obtain ⟨p, v, h1, -, h2⟩ := h
 refine ⟨fun o => ⟨p, v, h1.alloc o, fun e => ?_⟩, p, v, h1, fun e => ?_⟩
 ·have := (h2.lt _ e).2; omega
 ·have := (h2.lt _ e).1; omega
theorem BdI.other (h : BdI W m B l) {q : Nat} (hq : q ≠ m) (hqB : q < B) (x : Value) : BdI (W.setCell ⟨q, 0, none⟩ x) m B l := by
 obtain ⟨p, v, h1, hp, h2⟩ := h
 exact ⟨p, v, h1.other (p := ⟨q, 0, none⟩) (fun e => hq e.symm) x, hp, ownsRow_setCell_below h2 (a := ⟨q, 0, none⟩) hqB x⟩
end
/-- What a write does to other blocks. -/
theorem bwrite_core {W w2 : World} {m B n0 Bh g : Nat} {v v' : Value} {n k : Nat} {xs ys : List Value} (hv : At W m #[.pointer (some ⟨m, 0, none⟩), v] 49) (hrow : W.ownsRow B 5 1 v n xs) (hm : m < B) (hn0 : n0 ≤ m) (hBh : m < Bh) (hgm : g ≠ m)
  (hown' : w2.ownsRow B 5 1 v' k ys) (hg : W.grownBy w2 v.ownBlock) (hap : v'.ownBlock = v.ownBlock ∨ ∃ g, v'.ownBlock = some g ∧ W.heap.size ≤ g) :
  At w2 m #[.pointer (some ⟨m, 0, none⟩), v] 49 ∧ At (w2.setCell ⟨m, 1, none⟩ v') m #[.pointer (some ⟨m, 0, none⟩), v'] 49 ∧ (w2.setCell ⟨m, 1, none⟩ v').ownsRow B 5 1 v' k ys ∧ HeldS (SafeB m) n0 Bh g W (w2.setCell ⟨m, 1, none⟩ v') := by
 have hmv : v.ownBlock ≠ some m := fun e => by have := (hrow.lt m e).1; omega
 have hmv' : v'.ownBlock ≠ some m := fun e => by have := (hown'.lt m e).1; omega
 have a1 : At w2 m #[.pointer (some ⟨m, 0, none⟩), v] 49 := (hg.block m hv.lt (fun e => hmv e.symm)).trans hv
 have a2 : At (w2.setCell ⟨m, 1, none⟩ v') m #[.pointer (some ⟨m, 0, none⟩), v'] 49 := by have := a1.set 1 v'; simpa using this
 have hgs := grownBy_setCell' w2 m v'
 have blk : ∀ b, b < W.heap.size → b ≠ m → v.ownBlock ≠ some b → (w2.setCell ⟨m, 1, none⟩ v').heap[b]? = W.heap[b]? := fun b hb hbm hbv =>
  (Below.heap_setCell w2 ⟨m, 1, none⟩ v' b hbm).trans (hg.block b hb (fun e => hbv e.symm))
 have hsz : W.heap.size ≤ (w2.setCell ⟨m, 1, none⟩ v').heap.size := Nat.le_trans hg.size (KeepsOthers.setCell w2 ⟨m, 1, none⟩ v').1
 refine ⟨a1, a2, ownsRow_setCell_below hown' (a := ⟨m, 1, none⟩) hm v', ⟨?_, hsz, fun k o _ hc ho => ?_, fun b cs t hb hs ha => ?_⟩⟩
 ·exact ((Below.refl n0 W).grown hg (by have := hv.lt; omega) (fun b e => by have := (hrow.lt b e).1; omega)).setCell (p := ⟨m, 1, none⟩) hn0 _
 ·have hkl := (Array.getElem?_eq_some_iff.1 ho).1
  rw [blk k hkl (fun e => ?_) (fun e => ?_), ho]
  ·subst e
   have hv' : W.heap[k]? = some (.cells #[.pointer (some ⟨k, 0, none⟩), v] 49) := hv
   rw [ho] at hv'
   cases hv'
   cases hc
  ·rcases rowY_block hrow with e' | ⟨g', cur, e', _, hgb⟩
   ·rw [e'] at e; cases e
   ·rw [e'] at e
    cases e
    rw [ho] at hgb
    cases hgb
    cases hc
 ·obtain ⟨p, u, hu1, hu2⟩ := hs
  have huv : u = v := by
   have h1 : W.heap[m]? = some (.cells #[p, u] 49) := hu1
   have h2 : W.heap[m]? = some (.cells #[.pointer (some ⟨m, 0, none⟩), v] 49) := hv
   rw [h1] at h2
   simp at h2
   exact h2.2
  subst huv
  have hbm : b ≠ m := by rcases hb with h | h <;> omega
  refine ⟨(blk b ha.lt hbm hu2).trans ha, _, v', a2, ?_⟩
  rcases hap with e | ⟨g', e, hle⟩
  ·rw [e]; exact hu2
  ·rw [e]
   intro h
   have := ha.lt
   simp at h
   omega
theorem rowY_slice {W : World} {B n : Nat} {v : Value} {xs : List Value} (h : W.ownsRow B 5 1 v n xs) : ∃ so c, v = .slice so n c := by
 rcases h.2 with ⟨rfl, rfl⟩ | ⟨g, cap, cur, rfl, _⟩
 ·exact ⟨_, _, rfl⟩
 ·exact ⟨_, _, rfl⟩
theorem append_str {w : World} {base n : Nat} {ty : TypeId} {v : Value} {xs : List Value} (hown : w.ownsRow base 5 1 v n xs) (s : ByteArray) (hn : n + s.size ≤ 140737488355328) (hbase : base ≤ w.heap.size) :
  ∃ v' w', (Builtin.append_ #[47, 9] ty #[v, .string s]).run Tryd.prog w = .ok v' w' ∧ w'.ownsRow base 5 1 v' (n + s.size) (xs ++ Lib.strCells s) ∧ w.grownBy w' v.ownBlock ∧ (v'.ownBlock = v.ownBlock ∨ ∃ g, v'.ownBlock = some g ∧ w.heap.size ≤ g) := by
 obtain ⟨i0, hi, hz0, hz1, hz2⟩ := info_parts infoBy
 have hm : n + s.size ≤ maxLen := by unfold maxLen; omega
 obtain ⟨v', w', hr, r1, r2, -⟩ := Lib.run_append_own_string (P := Tryd.prog) w base 47 9 ty 5 i0 Tryd.underlying47 Tryd.underlying9 hi hz0 hz1 hz2 v n xs hown s hm (by omega) hbase
 refine ⟨v', w', hr, r1, r2, ?_⟩
 have new : ∀ {v'' : Value} {w'' : World} {k : Nat} {ys : List Value}, w''.ownsRow w.heap.size 5 1 v'' k ys → v' = v'' → v'.ownBlock = none ∨ ∃ g, v'.ownBlock = some g ∧ w.heap.size ≤ g := by
  rintro v'' w'' k ys ⟨-, ⟨rfl, -⟩ | ⟨g, cap, cur, rfl, hg, -⟩⟩ rfl
  ·exact .inl rfl
  ·exact .inr ⟨g, rfl, hg⟩
 rcases hown.2 with ⟨rfl, rfl⟩ | ⟨g, cap, cur, rfl, hb, hg, hnc, hcm, hcs, htk⟩
 ·obtain ⟨v'', w'', hr2, s1, -, -⟩ := Lib.run_append_own_string (P := Tryd.prog) w w.heap.size 47 9 ty 5 i0 Tryd.underlying47 Tryd.underlying9 hi hz0 hz1 hz2 (.slice none 0 0) 0 [] (World.ownsRow_nil w _ _ _) s hm (by omega) (Nat.le_refl _)
  rw [hr] at hr2
  obtain ⟨rfl, rfl⟩ : v' = v'' ∧ w' = w'' := by simpa using hr2
  exact new s1 rfl
 ·by_cases hgr : n + s.size ≤ cap
  ·have hr2 := Lib.run_append_room_string (P := Tryd.prog) w 47 9 ty 5 i0 Tryd.underlying47 Tryd.underlying9 hi hz1 g n cap cur hg s hgr (by omega)
   rw [hr] at hr2
   obtain ⟨rfl, -⟩ : v' = _ ∧ w' = _ := by simpa using hr2
   exact .inl rfl
  ·have hr2 := Lib.run_append_grow_string (P := Tryd.prog) w 47 9 ty 5 i0 (.int .u8 0) Tryd.underlying47 Tryd.underlying9 hi hz0 ⟨g, 0, none⟩ n cap xs (by rw [hz1]; exact hown.1) (hown.cells (g := g) rfl) s (by omega) (by omega) (by rw [hz2]; have := nextslicecap_le (need := n + s.size) (old := cap) (by omega); omega)
   rw [hr] at hr2
   obtain ⟨rfl, -⟩ : v' = _ ∧ w' = _ := by simpa using hr2
   exact .inr ⟨_, rfl, Nat.le_refl _⟩
theorem wpList_append_str {ops : Array Oper} {rest : List Oper} {o : Oper} {a : Act} {w : World} {Q : Exit → Act → World → Prop} (hgd : o.guard = none) (sl x : Operand)
  (ho : o.op = .call { callee := .builtin .append, args := #[sl, x], argTypes := #[47, 9] }) (base : Nat) (v : Value) (n : Nat) (xs : List Value) (hs : a.eval sl = v) (hown : w.ownsRow base 5 1 v n xs) (s : ByteArray) (hx : a.eval x = .string s)
  (hn : n + s.size ≤ 140737488355328) (hbase : base ≤ w.heap.size)
  (h : ∀ v' w', w'.ownsRow base 5 1 v' (n + s.size) (xs ++ Lib.strCells s) → w.grownBy w' v.ownBlock → (v'.ownBlock = v.ownBlock ∨ ∃ g, v'.ownBlock = some g ∧ w.heap.size ≤ g) → wpList Tryd.prog ops Q rest (a.put o.dst v') w') : wpList Tryd.prog ops Q (o :: rest) a w := by
 refine wpList_plain hgd fun K hK => ?_
 obtain ⟨v', w', hr, h2, h3, h4⟩ := append_str (ty := o.type) hown s hn hbase
 unfold Oper.wp execOp
 simp only [ho, resolve, invoke, builtin, Sem.run_bind, Sem.run_pure, Result.andThen_ok, List.map_toArray, List.map_cons, List.map_nil, hs, hx, hr]
 exact hK _ _ (h v' w' h2 h3 h4)
theorem HeldS.refl_set {m n0 Bh g : Nat} {W : World} {q : Value} (hn0 : n0 ≤ m) (hBh : m < Bh) (hgm : g ≠ m) : HeldS (SafeB m) n0 Bh g W (W.setCell ⟨m, 0, none⟩ q) := by
 refine ⟨(Below.refl n0 W).setCell (p := ⟨m, 0, none⟩) hn0 _, (KeepsOthers.setCell W ⟨m, 0, none⟩ q).1, fun k o hk hc ho => (Below.heap_setCell W ⟨m, 0, none⟩ q k (by show k ≠ m; omega)).trans ho, fun b cs t hb hs ha => ?_⟩
 have hbm : b ≠ m := by rcases hb with h | h <;> omega
 obtain ⟨p', u, hu1, hu2⟩ := hs
 refine ⟨ha.other (p := ⟨m, 0, none⟩) hbm q, q, u, ?_, hu2⟩
 have := hu1.set 0 q
 simpa using this
set_option maxRecDepth 100000 in
set_option maxHeartbeats 2000000 in
theorem bwrite_used (m B : Nat) (v : Value) (l : List UInt8) (s : ByteArray) (hm : m < B) (hn : l.length + s.size ≤ 140737488355328) (w : World) (w0 : World) (h : At w m #[.pointer (some ⟨m, 0, none⟩), v] 49) (hrow : w.ownsRow B 5 1 v l.length (Lib.byteCells l)) (hB : B ≤ w.heap.size)
  (hck : Calls Tryd.prog 35 #[.pointer (some ⟨m, 0, none⟩)] w0 fun e w' => e = .returned (.tuple #[]) ∧ w' = w) (hh : ∀ n0 Bh g, n0 ≤ m → m < Bh → g ≠ m → HeldS (SafeB m) n0 Bh g w0 w) :
  Calls Tryd.prog 21 #[.pointer (some ⟨m, 0, none⟩), .string s] w0 fun e w' => e = .returned (.tuple #[.int .i64 (s.size : Int), .nilIface]) ∧ BdI w' m B (l ++ s.data.toList) ∧ ∀ n0 Bh g, n0 ≤ m → m < Bh → g ≠ m → HeldS (SafeB m) n0 Bh g w0 w' := by
 have hck' := hid hck
 have hh' := hid hh
 have c0 := h.cell 0
 have c1 := h.cell 1
 simp only [List.getElem?_toArray, List.getElem?_cons_zero, List.getElem?_cons_succ] at c0 c1
 have h' := hid h
 have hrow' := hid hrow
 clear hck h hrow hh
 go_enter Tryd.func21, Tryd.ntmps21
 go_wp2_with fail
 refine Calls.mono hck'.out ?_
 rintro e w1 ⟨rfl, hw1⟩
 obtain rfl := hw1.symm
 go_wp2_with (at_builtin; refine wpList_append_str rfl _ _ rfl B v _ _ rfl hrow'.out s rfl hn hB ?_; intro v' w2 hown2 hg hap; obtain ⟨a1, a2, a3, -⟩ := bwrite_core (n0 := m) (Bh := m + 1) (g := m + 1) h'.out hrow'.out hm (Nat.le_refl _) (Nat.lt_succ_self _) (Nat.succ_ne_self _) hown2 hg hap; have a4 := fun n0 Bh g (e1 : n0 ≤ m) (e2 : m < Bh) (e3 : g ≠ m) => (bwrite_core (n0 := n0) (Bh := Bh) (g := g) h'.out hrow'.out hm e1 e2 e3 hown2 hg hap).2.2.2; have d1 := a1.cell 1; have g1 := a1.frozen 1; have d0 := a1.cell 0; simp only [List.getElem?_toArray, List.getElem?_cons_zero, List.getElem?_cons_succ] at d1 d0; have b2 := hid a2; have b3 := hid a3; have b4 := hid a4; obtain ⟨so', c', rfl⟩ := rowY_slice hown2; clear a1 a2 a3 a4 hg hap hown2 c0 c1)
 refine bodyPost_ret (v := .tuple #[.int .i64 (s.size : Int), .nilIface]) (by simp [results, Tryd.results21, go_sem]) rfl ?_
 refine ⟨rfl, ⟨_, _, b2.out, .inr rfl, ?_⟩, fun n0 Bh g e1 e2 e3 => (hh'.out n0 Bh g e1 e2 e3).trans (b4.out n0 Bh g e1 e2 e3)⟩
 have h3 := b3.out
 rw [Lib.strCells_eq, ← Lib.byteCells_append] at h3
 rw [show (l ++ s.data.toList).length = l.length + s.size by rw [List.length_append, Array.length_toList]; rfl]
 exact h3
theorem bwrite_calls (m B : Nat) (l : List UInt8) (s : ByteArray) (hm : m < B) (hn : l.length + s.size ≤ 140737488355328) (w : World) (h : BdI w m B l) (hB : B ≤ w.heap.size) :
  Calls Tryd.prog 21 #[.pointer (some ⟨m, 0, none⟩), .string s] w fun e w' => e = .returned (.tuple #[.int .i64 (s.size : Int), .nilIface]) ∧ BdI w' m B (l ++ s.data.toList) ∧ ∀ n0 Bh g, n0 ≤ m → m < Bh → g ≠ m → HeldS (SafeB m) n0 Bh g w w' := by
 obtain ⟨p, v, h1, rfl | rfl, h2⟩ := h
 ·have a1 : At (w.setCell ⟨m, 0, none⟩ (.pointer (some ⟨m, 0, none⟩))) m #[.pointer (some ⟨m, 0, none⟩), v] 49 := by have := h1.set 0 (.pointer (some ⟨m, 0, none⟩)); simpa using this
  exact bwrite_used m B v l s hm hn _ w a1 (ownsRow_setCell_below h2 (a := ⟨m, 0, none⟩) hm _) (Nat.le_trans hB (KeepsOthers.setCell w ⟨m, 0, none⟩ (.pointer (some ⟨m, 0, none⟩))).1) (bcheck_fresh m v w h1) (fun _ _ _ e1 e2 e3 => HeldS.refl_set e1 e2 e3)
 ·exact bwrite_used m B v l s hm hn w w h1 h2 hB (bcheck_used m v w h1) (fun _ _ _ _ _ _ => ⟨Below.refl _ _, Nat.le_refl _, fun _ _ _ _ h => h, fun _ _ _ _ hs ha => ⟨ha, hs⟩⟩)
theorem freeze_other (w : World) (p : Addr) (n D : Nat) (h : D ≠ p.block) : (w.freeze p n).heap[D]? = w.heap[D]? := by
 unfold World.freeze
 split
 ·rfl
 ·simp [Array.getElem?_modify, Ne.symm h]
set_option maxRecDepth 100000 in
set_option maxHeartbeats 2000000 in
theorem bstring_nil (m n0 : Nat) (p : Value) (w : World) (h : At w m #[p, .slice none 0 0] 49) :
  Calls Tryd.prog 23 #[.pointer (some ⟨m, 0, none⟩)] w fun e w' => e = .returned (.string ⟨#[]⟩) ∧ Below n0 w w' ∧ ∀ (D : Nat) (o : Obj), o.isCells = false → w.heap[D]? = some o → w'.heap[D]? = some o := by
 have hUS := fun (W : World) (q : Option Addr) => Lib.run_unsafeString_none (P := Tryd.prog) W 68 3 9 q
 have c1 : w.cell? ⟨m, 1, none⟩ = some (.slice none 0 0) := h.cell 1
 have c1' : w.drew.cell? ⟨m, 1, none⟩ = some (.slice none 0 0) := c1
 have hSD : (Builtin.unsafeSliceData_ #[47] 68 #[.slice none 0 0]).run Tryd.prog w.drew = .ok (.pointer none) w.drew := rfl
 go_enter Tryd.func23, Tryd.ntmps23
 go_wp2
 go_region
 all_goals (go_wp2; go_ret; exact ⟨rfl, Below.drew (Below.refl n0 w), fun _ _ _ h => h⟩)
set_option maxRecDepth 100000 in
set_option maxHeartbeats 2000000 in
theorem bstring_room (m n0 g cap : Nat) (p : Value) (hc0 : cap ≠ 0) (w : World) (h : At w m #[p, .slice (some ⟨g, 0, none⟩) 0 cap] 49) :
  Calls Tryd.prog 23 #[.pointer (some ⟨m, 0, none⟩)] w fun e w' => e = .returned (.string ⟨#[]⟩) ∧ Below n0 w w' ∧ ∀ (D : Nat) (o : Obj), o.isCells = false → w.heap[D]? = some o → w'.heap[D]? = some o := by
 have hUS := fun (W : World) (q : Option Addr) => Lib.run_unsafeString_none (P := Tryd.prog) W 68 3 9 q
 have c1 : w.cell? ⟨m, 1, none⟩ = some (.slice (some ⟨g, 0, none⟩) 0 cap) := h.cell 1
 have c1' : w.drew.cell? ⟨m, 1, none⟩ = some (.slice (some ⟨g, 0, none⟩) 0 cap) := c1
 have hSD : (Builtin.unsafeSliceData_ #[47] 68 #[.slice (some ⟨g, 0, none⟩) 0 cap]).run Tryd.prog w.drew = .ok (.pointer (some ⟨g, 0, none⟩)) w.drew := Lib.run_unsafeSliceData_row _ _ _ _ _ _ hc0
 clear hc0
 go_enter Tryd.func23, Tryd.ntmps23
 go_wp2
 go_region
 all_goals (go_wp2; go_ret; exact ⟨rfl, Below.drew (Below.refl n0 w), fun _ _ _ h => h⟩)
set_option maxRecDepth 100000 in
set_option maxHeartbeats 2000000 in
theorem bstring_noroom (m n0 g : Nat) (p : Value) (cur : Array Value) (w : World) (hB : n0 ≤ w.heap.size) (h : At w m #[p, .slice (some ⟨g, 0, none⟩) 0 0] 49) (hg : w.heap[g]? = some (.cells cur 5 (0, 0))) :
  Calls Tryd.prog 23 #[.pointer (some ⟨m, 0, none⟩)] w fun e w' => e = .returned (.string ⟨#[]⟩) ∧ Below n0 w w' ∧ ∀ (D : Nat) (o : Obj), o.isCells = false → w.heap[D]? = some o → w'.heap[D]? = some o := by
 have hUS := fun (W : World) (q : Option Addr) => Lib.run_unsafeString_none (P := Tryd.prog) W 68 3 9 q
 have hlt := h.lt
 have c1 : w.cell? ⟨m, 1, none⟩ = some (.slice (some ⟨g, 0, none⟩) 0 0) := h.cell 1
 have c1' : w.drew.cell? ⟨m, 1, none⟩ = some (.slice (some ⟨g, 0, none⟩) 0 0) := c1
 have hSD : (Builtin.unsafeSliceData_ #[47] 68 #[.slice (some ⟨g, 0, none⟩) 0 0]).run Tryd.prog w.drew = .ok (.pointer (some ⟨w.drew.heap.size, 0, none⟩)) (w.drew.alloc (.view ⟨g, 0, none⟩ 5)) :=
  Lib.run_unsafeSliceData_zero w.drew _ _ 5 Tryd.underlying68 ⟨g, 0, none⟩ 0 (5, cur.size) (by have hg' : w.drew.heap[g]? = some (.cells cur 5 (0, 0)) := hg; simp [World.shape?, hg'])
 have c2 : (w.drew.alloc (.view ⟨g, 0, none⟩ 5)).cell? ⟨m, 1, none⟩ = some (.slice (some ⟨g, 0, none⟩) 0 0) := (h.drew.alloc (.view ⟨g, 0, none⟩ 5)).cell 1
 have c3 : (w.alloc (.view ⟨g, 0, none⟩ 5)).drew.cell? ⟨m, 1, none⟩ = some (.slice (some ⟨g, 0, none⟩) 0 0) := c2
 clear h hg
 go_enter Tryd.func23, Tryd.ntmps23
 go_wp2
 go_region
 all_goals (go_wp2; go_ret; exact ⟨rfl, (Below.drew (Below.refl n0 w)).alloc hB _, fun D o _ h => (Below.heap_alloc w.drew _ D (Array.getElem?_eq_some_iff.1 h).1).trans h⟩)
set_option maxRecDepth 100000 in
set_option maxHeartbeats 2000000 in
theorem bstring_some (m B n0 : Nat) (p v : Value) (l : List UInt8) (h0 : l ≠ []) (w : World) (h : At w m #[p, v] 49) (hown : w.ownsRow B 5 1 v l.length (Lib.byteCells l)) (hn0 : n0 ≤ B) :
  Calls Tryd.prog 23 #[.pointer (some ⟨m, 0, none⟩)] w fun e w' => e = .returned (.string ⟨l.toArray⟩) ∧ Below n0 w w' ∧ ∀ (D : Nat) (o : Obj), o.isCells = false → w.heap[D]? = some o → w'.heap[D]? = some o := by
 have hl0 : l.length ≠ 0 := by simpa using h0
 obtain ⟨g, cap, cur, rfl, hbg, hg, hnc, hcm, hcs, htake⟩ : ∃ g cap cur, v = .slice (some ⟨g, 0, none⟩) l.length cap ∧ B ≤ g ∧ w.heap[g]? = some (.cells cur 5 (0, 0)) ∧ l.length ≤ cap ∧ cap ≤ maxLen ∧ cur.size = cap * 1 ∧ cur.toList.take (l.length * 1) = Lib.byteCells l := by
  rcases hown.2 with ⟨_, hz⟩ | ⟨g, cap, cur, hv, r⟩
  ·exact absurd hz hl0
  ·exact ⟨g, cap, cur, hv, r⟩
 have c1 : w.cell? ⟨m, 1, none⟩ = some (.slice (some ⟨g, 0, none⟩) l.length cap) := h.cell 1
 have c1' : w.drew.cell? ⟨m, 1, none⟩ = some (.slice (some ⟨g, 0, none⟩) l.length cap) := c1
 have hSD : (Builtin.unsafeSliceData_ #[47] 68 #[.slice (some ⟨g, 0, none⟩) l.length cap]).run Tryd.prog w.drew = .ok (.pointer (some ⟨g, 0, none⟩)) w.drew := Lib.run_unsafeSliceData_row _ _ _ _ _ _ (by omega)
 have hUS : (Builtin.unsafeString_ #[68, 3] 9 #[.pointer (some ⟨g, 0, none⟩), .int .i64 l.length]).run Tryd.prog w.drew = .ok (.string ⟨l.toArray⟩) (w.drew.freeze ⟨g, 0, none⟩ l.length) := by
  refine Lib.run_unsafeString_row w.drew 68 3 9 5 Tryd.underlying68 cellsBy g cur.size (by have hg' : w.drew.heap[g]? = some (.cells cur 5 (0, 0)) := hg; simp [World.shape?, hg']) l h0 (by omega) (by unfold maxLen at hcm; omega) ?_
  intro j x hx
  exact hown.cells (g := g) rfl j (.int .u8 x.toNat) (by simp [Lib.byteCells, hx])
 have hgn : n0 ≤ g := Nat.le_trans hn0 hbg
 have hg' := hg
 clear h hown hg hcs htake h0 hl0
 go_enter Tryd.func23, Tryd.ntmps23
 go_wp2
 go_region
 all_goals (go_wp2; go_ret; exact ⟨rfl, Lib.below_freeze (Below.drew (Below.refl n0 w)) (p := ⟨g, 0, none⟩) hgn _, fun D o hc h => (freeze_other w.drew ⟨g, 0, none⟩ _ D (fun e => by rw [show D = g from e] at h; rw [h] at hg'; cases hg'; cases hc)).trans h⟩)
theorem bstring_calls (m B n0 : Nat) (l : List UInt8) (w : World) (h : BdI w m B l) (hn0 : n0 ≤ B) (hB : B ≤ w.heap.size) :
  Calls Tryd.prog 23 #[.pointer (some ⟨m, 0, none⟩)] w fun e w' => e = .returned (.string ⟨l.toArray⟩) ∧ Below n0 w w' ∧ ∀ (D : Nat) (o : Obj), o.isCells = false → w.heap[D]? = some o → w'.heap[D]? = some o := by
 obtain ⟨p, v, h1, -, hown⟩ := h
 cases l with
 | nil =>
  rcases hown.2 with ⟨rfl, _⟩ | ⟨g, cap, cur, rfl, hbg, hg, _, _, _, _⟩
  ·exact bstring_nil m n0 p w h1
  ·by_cases hc0 : cap = 0
   ·subst hc0
    exact bstring_noroom m n0 g p cur w (by omega) h1 hg
   ·exact bstring_room m n0 g cap p hc0 w h1
 | cons x r => exact bstring_some m B n0 p v (x :: r) (by simp) w h1 hown hn0
end Go.Proofs.YtjlcliicdclooaaDoor
