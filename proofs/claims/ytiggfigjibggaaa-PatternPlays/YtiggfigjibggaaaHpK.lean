/-
  Rows that the program owns and grows; which blocks a call may turn.
-/
import Derived.Test.YtiggfigjibggaaaKitA
import Derived.Laws.OwnMore
import Derived.Deep.DeepAppendRoom
import Derived.Deep.Onto
import Derived.WalkSmall
namespace Go.Proofs.Ytiggfigjibggaaa
open Go.RowKit Go.Shelf

theorem appendVP {P : Program} {w : World} {base n z bytes : Nat} {t ty e : TypeId} {i : TypeInfo} {z0 v : Value} {xs : List Value} (ht : P.underlying t = some (.slice e)) (hi : P.info? e = some i) (hz : i.zero = some z0) (hsize : i.size = z) (hby : i.bytes = bytes) (hzs : z0.cells.size = z) (hsz : 0 < z)
    (hown : w.ownsRow base e z v n xs) (a : Addr) (m c : Nat) (news : List Value) (hl : news.length = m * z) (hnews : ∀ j u, news[j]? = some u → w.cell? (a.add j) = some u) (h1 : ∀ u ∈ news, u.oneCell' = true) (h63 : n + m ≤ maxLen) (hbytes : (n + m) * bytes ≤ 140737488355328) (hbase : base ≤ w.heap.size) :
    ∃ v' w', (Builtin.append_ #[t, t] ty #[v, .slice (some a) m c]).run P w = .ok v' w' ∧ w'.ownsRow base e z v' (n + m) (xs ++ news) ∧
      ((∃ g cap, v = .slice (some ⟨g, 0, none⟩) n cap ∧ v' = .slice (some ⟨g, 0, none⟩) (n + m) cap ∧ w.grownBy w' (some g)) ∨ ((∀ g, v'.ownBlock = some g → w.heap.size ≤ g) ∧ w.grownBy w' none)) := by
  rcases hown.2 with ⟨rfl, rfl⟩ | ⟨g, cap, cur, rfl, hb, hg, hnc, hcm, hcs, htk⟩
  · have hx : xs = [] := List.length_eq_zero_iff.1 (by rw [hown.1, Nat.zero_mul])
    subst hx
    obtain ⟨v', w', hr, s1, s2, -⟩ := run_append_own (P := P) w w.heap.size t ty e i z0 z bytes ht hi hz hsize hby hzs hsz (.slice none 0 0) 0 [] (World.ownsRow_nil w _ _ _) a m c news hl hnews h1 h63 hbytes (Nat.le_refl _)
    exact ⟨v', w', hr, s1.mono hbase, .inr ⟨fun g hg => (s1.lt g hg).1, s2⟩⟩
  · by_cases hgr : cap < n + m
    · obtain ⟨v', w', hr, s1, s2⟩ := run_append_arg_grows (P := P) w t ty e i z0 z bytes ht hi hz hsize hby hzs hsz ⟨g, 0, none⟩ n cap xs hown.1 (hown.cells (g := g) rfl) a m c news hl hnews hgr h63 hbytes
      exact ⟨v', w', hr, s1.mono hbase, .inr ⟨fun g hg => (s1.lt g hg).1, s2⟩⟩
    · obtain ⟨w', hr, s1, s2⟩ := run_append_own_spare (P := P) w base t ty e i z ht hi hsize g n cap xs hown a m c news hl hnews h1 (by omega)
      exact ⟨_, w', hr, s1, .inl ⟨g, cap, rfl, rfl, s2⟩⟩
theorem info_partsP {t : TypeId} {z : Value} {n m : Nat} (h : (Try.prog.info? t).map (fun i => (i.zero, i.size, i.bytes)) = some (some z, n, m)) : ∃ i, Try.prog.info? t = some i ∧ i.zero = some z ∧ i.size = n ∧ i.bytes = m := by
  cases hi : Try.prog.info? t with
  | none => rw [hi] at h; cases h
  | some i => rw [hi] at h; simp at h; exact ⟨i, rfl, h.1, h.2.1, h.2.2⟩
section
variable {B : Nat} {W W' : World} {v : Value}
theorem own_onP {e : TypeId} {z n : Nat} {xs : List Value} (h : W.ownsRow B e z v n xs) (hs : ∀ g, v.ownBlock = some g → B ≤ g → g < W.heap.size → W'.heap[g]? = W.heap[g]?) : W'.ownsRow B e z v n xs := by
  have hlt := h.lt
  refine ⟨h.1, ?_⟩
  rcases h.2 with h2 | ⟨g, cap, cur, rfl, hb, hg, h3⟩
  · exact .inl h2
  · exact .inr ⟨g, cap, cur, rfl, hb, (hs g rfl hb (hlt g rfl).2).trans hg, h3⟩
theorem own_neP {e t : TypeId} {z n b : Nat} {xs : List Value} {cs : Array Value} (h : W.ownsRow B e z v n xs) (ha : At W b cs t) (hne : t ≠ e) : v.ownBlock ≠ some b := by
  rcases h.2 with ⟨rfl, -⟩ | ⟨g, cap, cur, rfl, -, hg, -⟩
  · intro h; cases h
  · intro h
    obtain rfl : g = b := by simpa [Value.ownBlock] using h
    have h4 : W.heap[g]? = some (.cells cs t) := ha
    rw [h4] at hg
    simp at hg
    exact hne hg.2
theorem own_shapeP {e : TypeId} {z n : Nat} {xs : List Value} (h : W.ownsRow B e z v n xs) : ∃ so cap, v = .slice so n cap := by
  rcases h.2 with ⟨rfl, rfl⟩ | ⟨g, cap, cur, rfl, -⟩
  · exact ⟨_, _, rfl⟩
  · exact ⟨_, _, rfl⟩
theorem own_someP {e : TypeId} {z n : Nat} {xs : List Value} (h : W.ownsRow B e z v n xs) (hn : 0 < n) : ∃ g cap, v = .slice (some ⟨g, 0, none⟩) n cap := by
  rcases h.2 with ⟨rfl, rfl⟩ | ⟨g, cap, cur, rfl, -⟩
  · omega
  · exact ⟨_, _, rfl⟩
theorem at_grownP {b : Nat} {cs : Array Value} {t e : TypeId} {z n : Nat} {xs : List Value} (h : At W b cs t) (hr : W.ownsRow B e z v n xs) (hg : W.grownBy W' v.ownBlock) (hte : t ≠ e) : At W' b cs t := (hg.block b h.lt (fun e' => own_neP hr h hte e'.symm)).trans h
theorem own_setCellP {b k : Nat} {cs : Array Value} {t e : TypeId} {z n : Nat} {x : Value} {xs : List Value} (hr : W.ownsRow B e z v n xs) (h : At W b cs t) (hte : t ≠ e) : (W.setCell ⟨b, k, none⟩ x).ownsRow B e z v n xs := own_onP hr (fun g hv _ _ => Below.heap_setCell W ⟨b, k, none⟩ x g (fun e' => by
  have e2 : g = b := e'
  subst e2
  exact own_neP hr h hte hv))
theorem at_neP {b c : Nat} {cs ds : Array Value} {t u : TypeId} (h : At W b cs t) (k : At W c ds u) (htu : t ≠ u) : b ≠ c := fun e => by
  subst e
  have h1 : W.heap[b]? = some (.cells cs t) := h
  have h2 : W.heap[b]? = some (.cells ds u) := k
  rw [h1] at h2
  simp at h2
  exact htu h2.2
theorem at_newP {cs : Array Value} {t : TypeId} {b : Nat} (h : W.heap.size = b) : At (W.alloc (.cells cs t)) b cs t := by subst h; exact At.new _ _ _
end
theorem append_tyP (ts : Array TypeId) (ty ty' : TypeId) (vs : Array Value) : Builtin.append_ ts ty vs = Builtin.append_ ts ty' vs := rfl
/-- An append of one to a row that is owned: where the new row lies. -/
theorem app_genP {t e : TypeId} {z bys B n : Nat} {z0 v : Value} {xs : List Value} {W : World} (ht : Try.prog.underlying t = some (.slice e)) (hinfo : (Try.prog.info? e).map (fun i => (i.zero, i.size, i.bytes)) = some (some z0, z, bys)) (hz : z0.cells.size = z) (h0 : 0 < z) (h1 : W.ownsRow B e z v n xs)
    (ad : Addr) (c : Nat) (news : List Value) (hl : news.length = z) (hC : ∀ j u, news[j]? = some u → W.cell? (ad.add j) = some u) (hone : ∀ u ∈ news, u.oneCell' = true) (hn : n < 1099511627776) (hby : bys ≤ 64) (hB : B ≤ W.heap.size) :
    ∃ v' W', (∀ ty, (Builtin.append_ #[t, t] ty #[v, .slice (some ad) 1 c]).run Try.prog W = .ok v' W') ∧ W'.ownsRow B e z v' (n + 1) (xs ++ news) ∧ W.grownBy W' v.ownBlock ∧ (v'.ownBlock = v.ownBlock ∨ ∀ g, v'.ownBlock = some g → W.heap.size ≤ g) := by
  obtain ⟨i0, hi, hz0, hz1, hz2⟩ := info_partsP hinfo
  obtain ⟨v', W', hr, r1, r2⟩ := appendVP (P := Try.prog) (ty := 0) ht hi hz0 hz1 hz2 hz h0 h1 ad 1 c news (by rw [hl, Nat.one_mul]) hC hone (by unfold maxLen; omega) (by
    have : (n + 1) * bys ≤ 1099511627776 * 64 := Nat.mul_le_mul (by omega) hby
    omega) hB
  refine ⟨v', W', fun ty => by rw [append_tyP _ ty 0]; exact hr, r1, ?_, ?_⟩
  · rcases r2 with ⟨g, cap, rfl, rfl, hg⟩ | ⟨-, hg⟩
    · exact hg
    · exact ⟨hg.os, hg.tape, hg.output, hg.size, fun k hk _ => hg.block k hk (by simp)⟩
  · rcases r2 with ⟨g, cap, rfl, rfl, hg⟩ | ⟨hf, -⟩
    · exact .inl rfl
    · exact .inr hf
theorem wpList_append_runP {ops : Array Oper} {rest : List Oper} {o : Oper} {a : Act} {w : World} {Q : Exit → Act → World → Prop} (hgd : o.guard = none) (s y : Operand) (t : TypeId)
    (ho : o.op = .call { callee := .builtin .append, args := #[s, y], argTypes := #[t, t] }) (v u v' : Value) (w' : World) (hs : a.eval s = v) (hy : a.eval y = u)
    (hr : ∀ ty, (Builtin.append_ #[t, t] ty #[v, u]).run Try.prog w = .ok v' w') (h : wpList Try.prog ops Q rest (a.put o.dst v') w') : wpList Try.prog ops Q (o :: rest) a w := by
  refine wpList_plain hgd fun K hK => ?_
  unfold Oper.wp execOp
  simp only [ho, resolve, invoke, builtin, Sem.run_bind, Sem.run_pure, Result.andThen_ok, List.map_toArray, List.map_cons, List.map_nil, hs, hy, hr]
  exact hK _ _ h

/-- All is as it was but the blocks of which Z holds, and what is new. -/
structure Lap (Z : Nat → Prop) (w w' : World) : Prop where
  os : w'.os = w.os
  tape : w'.tape = w.tape
  output : w'.output = w.output
  size : w.heap.size ≤ w'.heap.size
  block : ∀ k, k < w.heap.size → ¬ Z k → w'.heap[k]? = w.heap[k]?
section
variable {Z Y : Nat → Prop} {w w' u : World}
theorem Lap.refl (Z : Nat → Prop) (w : World) : Lap Z w w := ⟨rfl, rfl, rfl, Nat.le_refl _, fun _ _ _ => rfl⟩
theorem Lap.of (h : Below w.heap.size w w') : Lap Z w w' := ⟨h.os, h.tape, h.output, h.size, fun k hk _ => h.block k hk⟩
/-- What the second step may turn: what the first one may, or what was new behind it. -/
theorem Lap.trans (h : Lap Z w w') (k : Lap Y w' u) (hY : ∀ q, q < w.heap.size → Y q → Z q) : Lap Z w u :=
  ⟨k.os.trans h.os, k.tape.trans h.tape, k.output.trans h.output, Nat.le_trans h.size k.size, fun q hq hz => (k.block q (Nat.lt_of_lt_of_le hq h.size) (fun hy => hz (hY q hq hy))).trans (h.block q hq hz)⟩
theorem Lap.mono (h : Lap Z w w') (hZ : ∀ q, q < w.heap.size → Z q → Y q) : Lap Y w w' := ⟨h.os, h.tape, h.output, h.size, fun k hk hy => h.block k hk (fun hz => hy (hZ k hk hz))⟩
theorem Lap.andB (h : Lap Z w w') (k : Below w'.heap.size w' u) : Lap Z w u := h.trans (Y := fun _ => False) (Lap.of k) (fun _ _ h => h.elim)
theorem Lap.setCell (h : Lap Z w w') (a : Addr) (hz : Z a.block) (v : Value) : Lap Z w (w'.setCell a v) :=
  ⟨h.os, h.tape, h.output, by simpa [World.setCell] using h.size, fun k hk hn => (Below.heap_setCell w' a v k (fun e => hn (e ▸ hz))).trans (h.block k hk hn)⟩
theorem Lap.grown (h : Lap Z w w') {row : Option Nat} (hg : w'.grownBy u row) (hr : ∀ k, row = some k → k < w.heap.size → Z k) : Lap Z w u :=
  ⟨hg.os.trans h.os, hg.tape.trans h.tape, hg.output.trans h.output, Nat.le_trans h.size hg.size, fun k hk hz => (hg.block k (Nat.lt_of_lt_of_le hk h.size) (fun e => hz (hr k e.symm hk))).trans (h.block k hk hz)⟩
theorem Lap.below {B : Nat} (h : Lap Z w w') (hB : B ≤ w.heap.size) (hZ : ∀ q, Z q → B ≤ q) : Below B w w' := ⟨h.os, h.tape, h.output, h.size, fun k hk => h.block k (by omega) (fun hz => by have := hZ k hz; omega)⟩
theorem Lap.at {b : Nat} {cs : Array Value} {t : TypeId} (h : Lap Z w w') (ha : At w b cs t) (hz : ¬ Z b) : At w' b cs t := (h.block b ha.lt hz).trans ha
theorem Lap.drew (h : Lap Z w w') : Lap Z w w'.drew := ⟨h.os, h.tape, h.output, h.size, h.block⟩
end
end Go.Proofs.Ytiggfigjibggaaa
