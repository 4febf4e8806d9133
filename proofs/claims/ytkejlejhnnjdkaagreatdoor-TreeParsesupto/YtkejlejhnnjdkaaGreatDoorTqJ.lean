/-
 quarryref17.value: the value that stands at a place (by gen_tqj.py).
-/
import Derived.Test.YtkejlejhnnjdkaaGreatDoorTqG
import Derived.Test.YtkejlejhnnjdkaaGreatDoorTrR2
import Derived.Test.YtkejlejhnnjdkaaGreatDoorDecROf
namespace Go.Proofs.YtkejlejhnnjdkaaGreatDoor
open Go.RowKit Go.Shelf
/-- An array or object that the reference reads. -/
structure RcS (p : Nat) (w : World) (kd : Int) (kv vv : Value) (ks : List ByteArray) (vs : List Vt) (wr : World) : Prop where
 res : At wr p #[.int .i64 0, .bool false, .string ⟨#[]⟩, .string ⟨#[]⟩, .slice none 0 0, .slice none 0 0] 25
 box : At wr (p + 1) #[.int .i64 kd, .bool false, .string ⟨#[]⟩, .string ⟨#[]⟩, kv, vv] 25
 obj : ObjG (p + 2) wr kv vv ks vs
 sz : p + 2 ≤ wr.heap.size
 bel : Below p w wr
section
variable {p : Nat} {w x x' y : World} {kd : Int} {kv vv kv' vv' : Value} {ks ks' : List ByteArray} {vs vs' : List Vt}
theorem RcS.kept (h : RcS p w kd kv vv ks vs x) (hb : Below x.heap.size x x') : RcS p w kd kv vv ks vs x' :=
 ⟨h.res.keptAll hb, h.box.keptAll hb, h.obj.kept ⟨hb.size, fun c _ hl => hb.block c hl⟩, Nat.le_trans h.sz hb.size, h.bel.trans (hb.mono (by have := h.sz; omega))⟩
theorem RcS.grow (h : RcS p w kd kv vv ks vs x) {row : Option Nat} (hg : x.grownBy y row) (hr : ∀ r, row = some r → p + 2 ≤ r) (ho : ObjG (p + 2) y kv' vv' ks' vs') (i : Nat) (v : Value) (hv : (#[.int .i64 kd, .bool false, .string ⟨#[]⟩, .string ⟨#[]⟩, kv, vv] : Array Value).setIfInBounds i v = #[.int .i64 kd, .bool false, .string ⟨#[]⟩, .string ⟨#[]⟩, kv', vv']) :
  RcS p w kd kv' vv' ks' vs' (y.setCell ⟨p + 1, i, none⟩ v) := by
 have hlow : ∀ c, c < p + 2 → y.heap[c]? = x.heap[c]? := fun c hc => hg.block c (Nat.lt_of_lt_of_le hc h.sz) (fun e => by have := hr c e.symm; omega)
 have hset : ∀ c, c ≠ p + 1 → (y.setCell ⟨p + 1, i, none⟩ v).heap[c]? = y.heap[c]? := fun c hc => Below.heap_setCell y ⟨p + 1, i, none⟩ v c hc
 have hbox : At y (p + 1) #[.int .i64 kd, .bool false, .string ⟨#[]⟩, .string ⟨#[]⟩, kv, vv] 25 := (hlow (p + 1) (by omega)).trans h.box
 have hs1 := hbox.set i v
 refine ⟨(hset p (by omega)).trans ((hlow p (by omega)).trans h.res), ?_, ?_, ?_, ?_⟩
 ·rw [← hv]
  exact hs1
 ·exact ho.kept ⟨by simp, fun c hc _ => hset c (by omega)⟩
 ·have := h.sz; have := hg.size; simp; omega
 ·exact ⟨hg.os.trans h.bel.os, hg.tape.trans h.bel.tape, hg.output.trans h.bel.output, by have := h.bel.size; have := hg.size; simp; omega, fun c hc => ((hset c (by omega)).trans (hlow c (by omega))).trans (h.bel.block c hc)⟩
theorem RcS.kid (h : RcS p w kd kv vv ks vs x) (hk : KidsG (p + 2) kv.ownBlock y vv' vs') (hg : x.grownBy y vv.ownBlock) (ha : vv'.ownBlock = vv.ownBlock ∨ ∃ g, vv'.ownBlock = some g ∧ x.heap.size ≤ g) : RcS p w kd kv vv' ks vs' (y.setCell ⟨p + 1, 5, none⟩ vv') :=
 h.grow hg (fun r hr => (h.obj.2.1.blk hr).1) (h.obj.kid hk hg ha) 5 vv' (by simp)
theorem RcS.key (h : RcS p w kd kv vv ks vs x) (hk : KeysG (p + 2) y kv' ks') (hg : x.grownBy y kv.ownBlock) (ha : kv'.ownBlock = kv.ownBlock ∨ ∃ g, kv'.ownBlock = some g ∧ x.heap.size ≤ g) : RcS p w kd kv' vv ks' vs (y.setCell ⟨p + 1, 4, none⟩ kv') :=
 h.grow hg (fun r hr => (h.obj.1.blk hr).1) (h.obj.key hk hg ha) 4 kv' (by simp)
theorem RcS.done {ko vo : Option Addr} {n m kc vc : Nat} (h : RcS p w kd (.slice ko n kc) (.slice vo m vc) ks vs x) (hwf : (Lit.int .i64 kd).wf = true) (hk : ks.length ≤ capT) (hv : vs.length ≤ capT) :
  n = ks.length ∧ m = vs.length ∧ ValOn (fun c => p + 2 ≤ c) x (.mk kd false ⟨#[]⟩ ⟨#[]⟩ ks vs) (.agg #[.int .i64 kd, .bool false, .string ⟨#[]⟩, .string ⟨#[]⟩, .slice ko n kc, .slice vo m vc]) := by
 obtain ⟨h1, h2, -⟩ := h.obj
 obtain ⟨X, rfl, hr, hx⟩ := h2.row
 obtain ⟨rfl, hkk⟩ := h1.row
 exact ⟨rfl, rfl, .mk kd false _ _ ks vs ko kc vo vc X hwf ⟨by decide, by decide, hk, hv⟩ hkk hr hx⟩
theorem RcS.low (h : RcS p w kd kv vv ks vs x) {row : Option Nat} (hg : x.grownBy y row) (hr : ∀ r, row = some r → p + 2 ≤ r) : At y (p + 1) #[.int .i64 kd, .bool false, .string ⟨#[]⟩, .string ⟨#[]⟩, kv, vv] 25 :=
 (hg.block (p + 1) (by have := h.sz; omega) (fun e => by have := hr _ e.symm; omega)).trans h.box
end
theorem take_snocR {α : Type} {l : List α} {q : Nat} {u : α} (h : l[q]? = some u) : l.take (q + 1) = l.take q ++ [u] := by
 rw [List.take_add_one, h]; rfl
theorem wpList_kids {ops : Array Oper} {rest : List Oper} {o : Oper} {a : Act} {Q : Exit → Act → World → Prop} {W : World} {x y : Operand} {B : Nat} {k : Option Nat} {v : Value} {vs : List Vt} {u : Vt} {C : Array Value} (hgd : o.guard = none) (ho : o.op = .call { callee := .builtin .append, args := #[x, y], argTypes := #[23, 23] })
  (hx : a.eval x = v) (h : KidsG B k W v vs) (hu : ValOn (fun c => B ≤ c ∧ v.ownBlock ≠ some c ∧ k ≠ some c) W u (.agg C)) (ad : Addr) (c : Nat) (hy : a.eval y = .slice (some ad) 1 c) (hC : ∀ (j : Nat) (y : Value), C[j]? = some y → W.cell? (ad.add j) = some y) (hn : vs.length < 1099511627776) (hB : B ≤ W.heap.size)
  (hr : ∀ v' W', KidsG B k W' v' (vs ++ [u]) → W.grownBy W' v.ownBlock → (v'.ownBlock = v.ownBlock ∨ ∃ g, v'.ownBlock = some g ∧ W.heap.size ≤ g) → wpList Tryz.prog ops Q rest (a.put o.dst v') W') : wpList Tryz.prog ops Q (o :: rest) a W := by
 refine wpList_plain hgd fun _ hK => ?_
 obtain ⟨v', W', hrun, h1, h2, h3⟩ := h.app (ty := o.type) hu ad c hC hn hB
 unfold Oper.wp execOp
 simp only [ho, resolve, invoke, builtin, Sem.run_bind, Sem.run_pure, Result.andThen_ok, List.map_toArray, List.map_cons, List.map_nil, hx, hy, hrun]
 exact hK _ _ (hr v' W' h1 h2 h3)
theorem wpList_keys {ops : Array Oper} {rest : List Oper} {o : Oper} {a : Act} {Q : Exit → Act → World → Prop} {W : World} {x y : Operand} {B : Nat} {v : Value} {ks : List ByteArray} {u : ByteArray} (hgd : o.guard = none) (ho : o.op = .call { callee := .builtin .append, args := #[x, y], argTypes := #[22, 22] })
  (hx : a.eval x = v) (h : KeysG B W v ks) (hu : u.size ≤ capT) (ad : Addr) (c : Nat) (hy : a.eval y = .slice (some ad) 1 c) (hC : W.cell? (ad.add 0) = some (.string u)) (hn : ks.length < 1099511627776) (hB : B ≤ W.heap.size)
  (hr : ∀ v' W', KeysG B W' v' (ks ++ [u]) → W.grownBy W' v.ownBlock → (v'.ownBlock = v.ownBlock ∨ ∃ g, v'.ownBlock = some g ∧ W.heap.size ≤ g) → wpList Tryz.prog ops Q rest (a.put o.dst v') W') : wpList Tryz.prog ops Q (o :: rest) a W := by
 refine wpList_plain hgd fun _ hK => ?_
 obtain ⟨v', W', hrun, h1, h2, h3⟩ := h.app (ty := o.type) hu ad c hC hn hB
 unfold Oper.wp execOp
 simp only [ho, resolve, invoke, builtin, Sem.run_bind, Sem.run_pure, Result.andThen_ok, List.map_toArray, List.map_cons, List.map_nil, hx, hy, hrun]
 exact hK _ _ (hr v' W' h1 h2 h3)
/-- What the reference's value answers. -/
def RvP (j : Nat) (t : Vt) (w : World) (e : Ending) (w' : World) : Prop := ∃ x : Value, e = .returned (.tuple #[x, .int .i64 (j : Int)]) ∧ ValOn (fun c => w.heap.size ≤ c) w' t x ∧ Below w.heap.size w w'
set_option maxRecDepth 10000 in
set_option maxHeartbeats 4000000 in
theorem rv_null (s : ByteArray) (hs : s.size ≤ 1048576) (i k : Nat) (hk : k < s.size) (hl : k + 4 ≤ s.size) (hc : byteAt s k = 110) (w : World) (hsk : Hid (IsSkip s i k)) :
  Calls Tryz.prog 19 #[.string s, .int .i64 (i : Int)] w fun e w' => RvP (k + 4) (.mk 1 false ⟨#[]⟩ ⟨#[]⟩ [] []) w e w' := by
 have hsk1 := hid (fun u => skip17_calls s (by omega) i k hsk u)
 have hki : (k : Int) < (s.size : Int) := by omega
 have hsi : (s.size : Int) ≤ 1048576 := by omega
 have hy := byteAt_eq s k hk
 obtain ⟨p, hp⟩ : ∃ p, Hid (w.heap.size = p) := ⟨_, rfl⟩
 have A0 : Hid (At (w.alloc (.cells #[.int .i64 0, .bool false, .string ⟨#[]⟩, .string ⟨#[]⟩, .slice none 0 0, .slice none 0 0] 25)) p #[.int .i64 0, .bool false, .string ⟨#[]⟩, .string ⟨#[]⟩, .slice none 0 0, .slice none 0 0] 25) := by
  have h := At.new w #[.int .i64 0, .bool false, .string ⟨#[]⟩, .string ⟨#[]⟩, .slice none 0 0, .slice none 0 0] 25
  rw [hp.out] at h
  exact h
 have B0 : Hid (Below p w (w.alloc (.cells #[.int .i64 0, .bool false, .string ⟨#[]⟩, .string ⟨#[]⟩, .slice none 0 0, .slice none 0 0] 25))) := by rw [← hp.out]; exact (Below.refl _ w).alloc (Nat.le_refl _) _
 have z0 : Hid ((w.alloc (.cells #[.int .i64 0, .bool false, .string ⟨#[]⟩, .string ⟨#[]⟩, .slice none 0 0, .slice none 0 0] 25)).heap.size = p + 1) := by show _ = _; rw [World.size_alloc, hp.out]
 rw [hc] at hy
 clear hc
 go_enter Tryz.func19, Tryz.ntmps19
 go_upto_region 1 with fail
 rw [hp.out]
 generalize w.alloc (.cells #[.int .i64 0, .bool false, .string ⟨#[]⟩, .string ⟨#[]⟩, .slice none 0 0, .slice none 0 0] 25) = W0 at A0 B0 z0 ⊢
 go_wp2_with fail
 refine Calls.mono (hsk1.out W0) ?_
 rintro e W1 ⟨rfl, hw1⟩
 rw [hw1]
 clear hw1 hsk1
 have d0 := A0.out.cell 0
 have d1 := A0.out.cell 1
 have d2 := A0.out.cell 2
 have d3 := A0.out.cell 3
 have d4 := A0.out.cell 4
 have d5 := A0.out.cell 5
 simp only [List.getElem?_toArray, List.getElem?_cons_zero, List.getElem?_cons_succ] at d0 d1 d2 d3 d4 d5
 have f0 := A0.out.frozen 0
 have f1 := A0.out.frozen 1
 have f2 := A0.out.frozen 2
 have f3 := A0.out.frozen 3
 have f4 := A0.out.frozen 4
 have f5 := A0.out.frozen 5
 go_wp2
 refine ret_val2 (p := 4) (u := 5) rfl rfl (A0.out.six) rfl rfl ?_
 refine ⟨_, by first | (simp; done) | (simp; rfl), leafOn _ _ _ _ _ _ (by decide) (by decide) (by decide), ?_⟩
 rw [hp.out]
 exact below_six B0.out (Nat.le_refl _) _ _ _ _ _ _
set_option maxRecDepth 10000 in
set_option maxHeartbeats 4000000 in
theorem rv_yes (s : ByteArray) (hs : s.size ≤ 1048576) (i k : Nat) (hk : k < s.size) (hl : k + 4 ≤ s.size) (hc : byteAt s k = 116) (w : World) (hsk : Hid (IsSkip s i k)) :
  Calls Tryz.prog 19 #[.string s, .int .i64 (i : Int)] w fun e w' => RvP (k + 4) (.mk 2 true ⟨#[]⟩ ⟨#[]⟩ [] []) w e w' := by
 have hsk1 := hid (fun u => skip17_calls s (by omega) i k hsk u)
 have hki : (k : Int) < (s.size : Int) := by omega
 have hsi : (s.size : Int) ≤ 1048576 := by omega
 have hy := byteAt_eq s k hk
 obtain ⟨p, hp⟩ : ∃ p, Hid (w.heap.size = p) := ⟨_, rfl⟩
 have A0 : Hid (At (w.alloc (.cells #[.int .i64 0, .bool false, .string ⟨#[]⟩, .string ⟨#[]⟩, .slice none 0 0, .slice none 0 0] 25)) p #[.int .i64 0, .bool false, .string ⟨#[]⟩, .string ⟨#[]⟩, .slice none 0 0, .slice none 0 0] 25) := by
  have h := At.new w #[.int .i64 0, .bool false, .string ⟨#[]⟩, .string ⟨#[]⟩, .slice none 0 0, .slice none 0 0] 25
  rw [hp.out] at h
  exact h
 have B0 : Hid (Below p w (w.alloc (.cells #[.int .i64 0, .bool false, .string ⟨#[]⟩, .string ⟨#[]⟩, .slice none 0 0, .slice none 0 0] 25))) := by rw [← hp.out]; exact (Below.refl _ w).alloc (Nat.le_refl _) _
 have z0 : Hid ((w.alloc (.cells #[.int .i64 0, .bool false, .string ⟨#[]⟩, .string ⟨#[]⟩, .slice none 0 0, .slice none 0 0] 25)).heap.size = p + 1) := by show _ = _; rw [World.size_alloc, hp.out]
 rw [hc] at hy
 clear hc
 go_enter Tryz.func19, Tryz.ntmps19
 go_upto_region 1 with fail
 rw [hp.out]
 generalize w.alloc (.cells #[.int .i64 0, .bool false, .string ⟨#[]⟩, .string ⟨#[]⟩, .slice none 0 0, .slice none 0 0] 25) = W0 at A0 B0 z0 ⊢
 go_wp2_with fail
 refine Calls.mono (hsk1.out W0) ?_
 rintro e W1 ⟨rfl, hw1⟩
 rw [hw1]
 clear hw1 hsk1
 have d0 := A0.out.cell 0
 have d1 := A0.out.cell 1
 have d2 := A0.out.cell 2
 have d3 := A0.out.cell 3
 have d4 := A0.out.cell 4
 have d5 := A0.out.cell 5
 simp only [List.getElem?_toArray, List.getElem?_cons_zero, List.getElem?_cons_succ] at d0 d1 d2 d3 d4 d5
 have f0 := A0.out.frozen 0
 have f1 := A0.out.frozen 1
 have f2 := A0.out.frozen 2
 have f3 := A0.out.frozen 3
 have f4 := A0.out.frozen 4
 have f5 := A0.out.frozen 5
 go_wp2
 refine ret_val2 (p := 4) (u := 5) rfl rfl (A0.out.six) rfl rfl ?_
 refine ⟨_, by first | (simp; done) | (simp; rfl), leafOn _ _ _ _ _ _ (by decide) (by decide) (by decide), ?_⟩
 rw [hp.out]
 exact below_six B0.out (Nat.le_refl _) _ _ _ _ _ _
set_option maxRecDepth 10000 in
set_option maxHeartbeats 4000000 in
theorem rv_no (s : ByteArray) (hs : s.size ≤ 1048576) (i k : Nat) (hk : k < s.size) (hl : k + 5 ≤ s.size) (hc : byteAt s k = 102) (w : World) (hsk : Hid (IsSkip s i k)) :
  Calls Tryz.prog 19 #[.string s, .int .i64 (i : Int)] w fun e w' => RvP (k + 5) (.mk 2 false ⟨#[]⟩ ⟨#[]⟩ [] []) w e w' := by
 have hsk1 := hid (fun u => skip17_calls s (by omega) i k hsk u)
 have hki : (k : Int) < (s.size : Int) := by omega
 have hsi : (s.size : Int) ≤ 1048576 := by omega
 have hy := byteAt_eq s k hk
 obtain ⟨p, hp⟩ : ∃ p, Hid (w.heap.size = p) := ⟨_, rfl⟩
 have A0 : Hid (At (w.alloc (.cells #[.int .i64 0, .bool false, .string ⟨#[]⟩, .string ⟨#[]⟩, .slice none 0 0, .slice none 0 0] 25)) p #[.int .i64 0, .bool false, .string ⟨#[]⟩, .string ⟨#[]⟩, .slice none 0 0, .slice none 0 0] 25) := by
  have h := At.new w #[.int .i64 0, .bool false, .string ⟨#[]⟩, .string ⟨#[]⟩, .slice none 0 0, .slice none 0 0] 25
  rw [hp.out] at h
  exact h
 have B0 : Hid (Below p w (w.alloc (.cells #[.int .i64 0, .bool false, .string ⟨#[]⟩, .string ⟨#[]⟩, .slice none 0 0, .slice none 0 0] 25))) := by rw [← hp.out]; exact (Below.refl _ w).alloc (Nat.le_refl _) _
 have z0 : Hid ((w.alloc (.cells #[.int .i64 0, .bool false, .string ⟨#[]⟩, .string ⟨#[]⟩, .slice none 0 0, .slice none 0 0] 25)).heap.size = p + 1) := by show _ = _; rw [World.size_alloc, hp.out]
 rw [hc] at hy
 clear hc
 go_enter Tryz.func19, Tryz.ntmps19
 go_upto_region 1 with fail
 rw [hp.out]
 generalize w.alloc (.cells #[.int .i64 0, .bool false, .string ⟨#[]⟩, .string ⟨#[]⟩, .slice none 0 0, .slice none 0 0] 25) = W0 at A0 B0 z0 ⊢
 go_wp2_with fail
 refine Calls.mono (hsk1.out W0) ?_
 rintro e W1 ⟨rfl, hw1⟩
 rw [hw1]
 clear hw1 hsk1
 have d0 := A0.out.cell 0
 have d1 := A0.out.cell 1
 have d2 := A0.out.cell 2
 have d3 := A0.out.cell 3
 have d4 := A0.out.cell 4
 have d5 := A0.out.cell 5
 simp only [List.getElem?_toArray, List.getElem?_cons_zero, List.getElem?_cons_succ] at d0 d1 d2 d3 d4 d5
 have f0 := A0.out.frozen 0
 have f1 := A0.out.frozen 1
 have f2 := A0.out.frozen 2
 have f3 := A0.out.frozen 3
 have f4 := A0.out.frozen 4
 have f5 := A0.out.frozen 5
 go_wp2
 refine ret_val2 (p := 4) (u := 5) rfl rfl (A0.out.six) rfl rfl ?_
 refine ⟨_, by first | (simp; done) | (simp; rfl), leafOn _ _ _ _ _ _ (by decide) (by decide) (by decide), ?_⟩
 rw [hp.out]
 exact below_six B0.out (Nat.le_refl _) _ _ _ _ _ _
set_option maxRecDepth 10000 in
set_option maxHeartbeats 4000000 in
theorem rv_text (s : ByteArray) (hs : s.size ≤ 1048576) (i k j : Nat) (hk : k < s.size) (X : ByteArray) (hX : Hid (Txt s k j X)) (w : World) (hsk : Hid (IsSkip s i k)) :
  Calls Tryz.prog 19 #[.string s, .int .i64 (i : Int)] w fun e w' => RvP j (.mk 4 false ⟨#[]⟩ X [] []) w e w' := by
 have hsk1 := hid (fun u => skip17_calls s (by omega) i k hsk u)
 have hki : (k : Int) < (s.size : Int) := by omega
 have hsi : (s.size : Int) ≤ 1048576 := by omega
 have hy := byteAt_eq s k hk
 obtain ⟨p, hp⟩ : ∃ p, Hid (w.heap.size = p) := ⟨_, rfl⟩
 have A0 : Hid (At (w.alloc (.cells #[.int .i64 0, .bool false, .string ⟨#[]⟩, .string ⟨#[]⟩, .slice none 0 0, .slice none 0 0] 25)) p #[.int .i64 0, .bool false, .string ⟨#[]⟩, .string ⟨#[]⟩, .slice none 0 0, .slice none 0 0] 25) := by
  have h := At.new w #[.int .i64 0, .bool false, .string ⟨#[]⟩, .string ⟨#[]⟩, .slice none 0 0, .slice none 0 0] 25
  rw [hp.out] at h
  exact h
 have B0 : Hid (Below p w (w.alloc (.cells #[.int .i64 0, .bool false, .string ⟨#[]⟩, .string ⟨#[]⟩, .slice none 0 0, .slice none 0 0] 25))) := by rw [← hp.out]; exact (Below.refl _ w).alloc (Nat.le_refl _) _
 have z0 : Hid ((w.alloc (.cells #[.int .i64 0, .bool false, .string ⟨#[]⟩, .string ⟨#[]⟩, .slice none 0 0, .slice none 0 0] 25)).heap.size = p + 1) := by show _ = _; rw [World.size_alloc, hp.out]
 obtain ⟨hc, e, hQ, hj, hU⟩ := hX.out
 rw [hc] at hy
 have hXs : X.size ≤ capT := by have := hX.out.len; unfold capT; omega
 have htx := hid (fun u => text17_calls s hs k e (hid hQ) X _ (hid (show unS (s.extract (k + 1) e) = (X, (unS (s.extract (k + 1) e)).2) by rw [← hU])) u)
 generalize (unS (s.extract (k + 1) e)).2 = E2 at htx
 have hj' := hid hj
 clear hc hQ hU hX hj
 go_enter Tryz.func19, Tryz.ntmps19
 go_upto_region 1 with fail
 rw [hp.out]
 generalize w.alloc (.cells #[.int .i64 0, .bool false, .string ⟨#[]⟩, .string ⟨#[]⟩, .slice none 0 0, .slice none 0 0] 25) = W0 at A0 B0 z0 ⊢
 go_wp2_with fail
 refine Calls.mono (hsk1.out W0) ?_
 rintro e W1 ⟨rfl, hw1⟩
 rw [hw1]
 clear hw1 hsk1
 go_wp2_with fail
 refine Calls.mono (htx.out _) ?_
 rintro r W2 ⟨rfl, hb⟩
 have A2 := hid (A0.out.keptAll hb)
 have B2 := hid (B0.out.trans (hb.mono (by rw [z0.out]; omega)))
 clear hb A0 B0 z0 htx
 have d0 := A2.out.cell 0
 have d1 := A2.out.cell 1
 have d2 := A2.out.cell 2
 have d3 := A2.out.cell 3
 have d4 := A2.out.cell 4
 have d5 := A2.out.cell 5
 simp only [List.getElem?_toArray, List.getElem?_cons_zero, List.getElem?_cons_succ] at d0 d1 d2 d3 d4 d5
 have f0 := A2.out.frozen 0
 have f1 := A2.out.frozen 1
 have f2 := A2.out.frozen 2
 have f3 := A2.out.frozen 3
 have f4 := A2.out.frozen 4
 have f5 := A2.out.frozen 5
 go_wp2
 refine ret_val2 (p := 4) (u := 5) rfl rfl (A2.out.six) rfl rfl ?_
 refine ⟨_, by rw [hj'.out]; first | (simp; done) | (simp; rfl), leafOn _ _ _ _ _ _ (by decide) (by decide) hXs, ?_⟩
 rw [hp.out]
 exact below_six B2.out (Nat.le_refl _) _ _ _ _ _ _
set_option maxRecDepth 10000 in
set_option maxHeartbeats 4000000 in
theorem rv_num (s : ByteArray) (hs : s.size ≤ 1048576) (i k en : Nat) (hk : k < s.size) (hc : byteAt s k ≠ 91 ∧ byteAt s k ≠ 123 ∧ byteAt s k ≠ 34 ∧ byteAt s k ≠ 110 ∧ byteAt s k ≠ 116 ∧ byteAt s k ≠ 102) (hj : (readS s k).2.1 = en) (hie : k < en) (hes : en ≤ s.size) (w : World) (hsk : Hid (IsSkip s i k)) :
  Calls Tryz.prog 19 #[.string s, .int .i64 (i : Int)] w fun e w' => RvP en (.mk 3 false (s.extract k en) ⟨#[]⟩ [] []) w e w' := by
 have hsk1 := hid (fun u => skip17_calls s (by omega) i k hsk u)
 have hki : (k : Int) < (s.size : Int) := by omega
 have hsi : (s.size : Int) ≤ 1048576 := by omega
 have hy := byteAt_eq s k hk
 obtain ⟨p, hp⟩ : ∃ p, Hid (w.heap.size = p) := ⟨_, rfl⟩
 have A0 : Hid (At (w.alloc (.cells #[.int .i64 0, .bool false, .string ⟨#[]⟩, .string ⟨#[]⟩, .slice none 0 0, .slice none 0 0] 25)) p #[.int .i64 0, .bool false, .string ⟨#[]⟩, .string ⟨#[]⟩, .slice none 0 0, .slice none 0 0] 25) := by
  have h := At.new w #[.int .i64 0, .bool false, .string ⟨#[]⟩, .string ⟨#[]⟩, .slice none 0 0, .slice none 0 0] 25
  rw [hp.out] at h
  exact h
 have B0 : Hid (Below p w (w.alloc (.cells #[.int .i64 0, .bool false, .string ⟨#[]⟩, .string ⟨#[]⟩, .slice none 0 0, .slice none 0 0] 25))) := by rw [← hp.out]; exact (Below.refl _ w).alloc (Nat.le_refl _) _
 have z0 : Hid ((w.alloc (.cells #[.int .i64 0, .bool false, .string ⟨#[]⟩, .string ⟨#[]⟩, .slice none 0 0, .slice none 0 0] 25)).heap.size = p + 1) := by show _ = _; rw [World.size_alloc, hp.out]
 have hrd := hid (fun u => refRead_calls s k (by omega) (Nat.le_of_lt hk) u)
 obtain ⟨⟨D, en', er⟩, hD⟩ : ∃ x, readS s k = x := ⟨_, rfl⟩
 obtain rfl : en = en' := by have := hj; rw [hD] at this; exact this.symm
 simp only [readV, hD] at hrd
 obtain ⟨DN, DD, DX⟩ := D
 dsimp only [decV] at hrd
 generalize (⟨DD.toArray⟩ : ByteArray) = TD at hrd
 have hel : (en : Int) ≤ (s.size : Int) := by omega
 have hii : (k : Int) ≤ (en : Int) := by omega
 have hXs : (s.extract k en).size ≤ capT := by rw [ByteArray.size_extract]; unfold capT; omega
 obtain ⟨c1, c2, c3, c4, c5, c6⟩ := hc
 obtain ⟨y, hY⟩ : ∃ y, byteAt s k = y := ⟨_, rfl⟩
 rw [hY] at hy c1 c2 c3 c4 c5 c6
 have e1 : ((y : Int) == 91) = false := by simp; omega
 have e2 : ((y : Int) == 123) = false := by simp; omega
 have e3 : ((y : Int) == 34) = false := by simp; omega
 have e4 : ((y : Int) == 110) = false := by simp; omega
 have e5 : ((y : Int) == 116) = false := by simp; omega
 have e6 : ((y : Int) == 102) = false := by simp; omega
 clear hD hj c1 c2 c3 c4 c5 c6 hY
 go_enter Tryz.func19, Tryz.ntmps19
 go_upto_region 1 with fail
 rw [hp.out]
 generalize w.alloc (.cells #[.int .i64 0, .bool false, .string ⟨#[]⟩, .string ⟨#[]⟩, .slice none 0 0, .slice none 0 0] 25) = W0 at A0 B0 z0 ⊢
 go_wp2_with fail
 refine Calls.mono (hsk1.out W0) ?_
 rintro e W1 ⟨rfl, hw1⟩
 rw [hw1]
 clear hw1 hsk1
 go_wp2_with fail
 refine Calls.mono (hrd.out _) ?_
 rintro r W2 ⟨rfl, hb⟩
 have A2 := hid ((A0.out.keptAll hb).alloc (.cells #[.bool DN, .string TD, .int .i64 DX] 63))
 have B2 := hid ((B0.out.trans (hb.mono (by rw [z0.out]; omega))).alloc (by have := hb.size; rw [z0.out] at this; omega) (.cells #[.bool DN, .string TD, .int .i64 DX] 63))
 clear hb A0 B0 z0 hrd
 go_upto_region 36 with fail
 generalize W2.alloc (.cells #[.bool DN, .string TD, .int .i64 DX] 63) = W3 at A2 B2 ⊢
 have d0 := A2.out.cell 0
 have d1 := A2.out.cell 1
 have d2 := A2.out.cell 2
 have d3 := A2.out.cell 3
 have d4 := A2.out.cell 4
 have d5 := A2.out.cell 5
 simp only [List.getElem?_toArray, List.getElem?_cons_zero, List.getElem?_cons_succ] at d0 d1 d2 d3 d4 d5
 have f0 := A2.out.frozen 0
 have f1 := A2.out.frozen 1
 have f2 := A2.out.frozen 2
 have f3 := A2.out.frozen 3
 have f4 := A2.out.frozen 4
 have f5 := A2.out.frozen 5
 go_wp2
 refine ret_val2 (p := 4) (u := 5) rfl rfl (A2.out.six) rfl rfl ?_
 refine ⟨_, by first | (simp; done) | (simp; rfl), leafOn _ _ _ _ _ _ (by decide) hXs (by decide), ?_⟩
 rw [hp.out]
 exact below_six B2.out (Nat.le_refl _) _ _ _ _ _ _
set_option maxRecDepth 10000 in
set_option maxHeartbeats 4000000 in
theorem rv_arr (s : ByteArray) (hs : s.size ≤ 1048576) (i k : Nat) (hk : k < s.size) (hc : byteAt s k = 91) (vs : List Vt) (a bb cc : Nat → Nat) (h0 : Hid (IsSkip s (k + 1) (a 0)))
  (hq : Hid (∀ q, q < vs.length → byteAt s (a q) ≠ 93 ∧ a q < s.size ∧ IsSkip s (if byteAt s (a q) = 44 then a q + 1 else a q) (bb q) ∧ bb q < s.size))
  (hv : Hid (∀ (q : Nat) (u : Vt), vs[q]? = some u → ∀ (z : Nat) (x : World), IsSkip s z (bb q) → Calls Tryz.prog 19 #[.string s, .int .i64 (z : Int)] x fun e w' => RvP (cc q) u x e w'))
  (hss : Hid (∀ q, q < vs.length → IsSkip s (cc q) (a (q + 1)))) (he : Hid (byteAt s (a vs.length) = 93)) (hn : Hid (a vs.length < s.size)) (hlen : vs.length ≤ 1048576) (w : World) (hsk : Hid (IsSkip s i k)) :
  Calls Tryz.prog 19 #[.string s, .int .i64 (i : Int)] w fun e w' => RvP (a vs.length + 1) (.mk 5 false ⟨#[]⟩ ⟨#[]⟩ [] vs) w e w' := by
 have hsk1 := hid (fun u => skip17_calls s (by omega) i k hsk u)
 have hki : (k : Int) < (s.size : Int) := by omega
 have hsi : (s.size : Int) ≤ 1048576 := by omega
 have hy := byteAt_eq s k hk
 obtain ⟨p, hp⟩ : ∃ p, Hid (w.heap.size = p) := ⟨_, rfl⟩
 have A0 : Hid (At (w.alloc (.cells #[.int .i64 0, .bool false, .string ⟨#[]⟩, .string ⟨#[]⟩, .slice none 0 0, .slice none 0 0] 25)) p #[.int .i64 0, .bool false, .string ⟨#[]⟩, .string ⟨#[]⟩, .slice none 0 0, .slice none 0 0] 25) := by
  have h := At.new w #[.int .i64 0, .bool false, .string ⟨#[]⟩, .string ⟨#[]⟩, .slice none 0 0, .slice none 0 0] 25
  rw [hp.out] at h
  exact h
 have B0 : Hid (Below p w (w.alloc (.cells #[.int .i64 0, .bool false, .string ⟨#[]⟩, .string ⟨#[]⟩, .slice none 0 0, .slice none 0 0] 25))) := by rw [← hp.out]; exact (Below.refl _ w).alloc (Nat.le_refl _) _
 have z0 : Hid ((w.alloc (.cells #[.int .i64 0, .bool false, .string ⟨#[]⟩, .string ⟨#[]⟩, .slice none 0 0, .slice none 0 0] 25)).heap.size = p + 1) := by show _ = _; rw [World.size_alloc, hp.out]
 rw [hc] at hy
 clear hc
 have hskA := hid (fun u => skip17_calls s (by omega) (k + 1) (a 0) h0 u)
 push_cast at hskA
 go_enter Tryz.func19, Tryz.ntmps19
 go_upto_region 1 with fail
 rw [hp.out]
 generalize w.alloc (.cells #[.int .i64 0, .bool false, .string ⟨#[]⟩, .string ⟨#[]⟩, .slice none 0 0, .slice none 0 0] 25) = W0 at A0 B0 z0 ⊢
 go_wp2_with fail
 refine Calls.mono (hsk1.out W0) ?_
 rintro e W1 ⟨rfl, hw1⟩
 rw [hw1]
 clear hw1 hsk1
 have S0 : Hid (RcS p w 5 (.slice none 0 0) (.slice none 0 0) [] [] (W0.alloc (.cells #[.int .i64 5, .bool false, .string ⟨#[]⟩, .string ⟨#[]⟩, .slice none 0 0, .slice none 0 0] 25))) := by
  have b0 := At.new W0 #[.int .i64 5, .bool false, .string ⟨#[]⟩, .string ⟨#[]⟩, .slice none 0 0, .slice none 0 0] 25
  rw [z0.out] at b0
  exact ⟨A0.out.alloc _, b0, ObjG.nil _ _, by rw [World.size_alloc, z0.out]; exact Nat.le_refl _, B0.out.alloc (by rw [z0.out]; omega) _⟩
 go_upto_region 14 with fail
 rw [z0.out]
 clear A0 B0 z0
 generalize W0.alloc (.cells #[.int .i64 5, .bool false, .string ⟨#[]⟩, .string ⟨#[]⟩, .slice none 0 0, .slice none 0 0] 25) = W2 at S0 ⊢
 go_wp2_with fail
 refine Calls.mono (hskA.out W2) ?_
 rintro e W3 ⟨rfl, hw3⟩
 rw [hw3]
 clear hw3 hskA
 go_wp2
 go_loopw [1, 9, 10] (fun at_ _ _ wr => ∃ (q cp : Nat) (so : Option Addr), q ≤ vs.length ∧ at_ = .int .i64 (a q : Int) ∧ Hid (RcS p w 5 (.slice none 0 0) (.slice so q cp) [] (vs.take q) wr)) (fun _ _ _ wr => vs.length - lenP (p + 1) 5 wr)
 case atStart => exact ⟨0, 0, none, Nat.zero_le _, rfl, S0⟩
 case round =>
  obtain ⟨q, cp, so, hql, rfl, hS⟩ := hrel
  clear S0
  have haq : a q < s.size := by
   by_cases e : q = vs.length
   ·rw [e]; exact hn.out
   ·exact (hq.out q (by omega)).2.1
  have haqi : (a q : Int) < (s.size : Int) := by omega
  have hya := byteAt_eq s (a q) haq
  by_cases hqe : q = vs.length
  ·have e93 : byteAt s (a q) = 93 := by rw [hqe]; exact he.out
   rw [e93] at hya
   have htk := hid (show vs.take q = vs by rw [hqe]; exact List.take_length)
   have hpos := hid (show a q + 1 = a vs.length + 1 by rw [hqe])
   rw [htk.out] at hS
   clear hqe e93 htk
   obtain ⟨z1, z2, hV⟩ := hS.out.done (by decide) (by decide) (by unfold capT; omega)
   have hV' := hid hV
   clear z1 z2 hV
   have e0 := hS.out.box.cell 0
   have e1 := hS.out.box.cell 1
   have e2 := hS.out.box.cell 2
   have e3 := hS.out.box.cell 3
   have e4 := hS.out.box.cell 4
   have e5 := hS.out.box.cell 5
   simp only [List.getElem?_toArray, List.getElem?_cons_zero, List.getElem?_cons_succ] at e0 e1 e2 e3 e4 e5
   have d0 := hS.out.res.cell 0
   have d1 := hS.out.res.cell 1
   have d2 := hS.out.res.cell 2
   have d3 := hS.out.res.cell 3
   have d4 := hS.out.res.cell 4
   have d5 := hS.out.res.cell 5
   simp only [List.getElem?_toArray, List.getElem?_cons_zero, List.getElem?_cons_succ] at d0 d1 d2 d3 d4 d5
   have f0 := hS.out.res.frozen 0
   have f1 := hS.out.res.frozen 1
   have f2 := hS.out.res.frozen 2
   have f3 := hS.out.res.frozen 3
   have f4 := hS.out.res.frozen 4
   have f5 := hS.out.res.frozen 5
   go_wp2
   refine ret_val2 (p := 4) (u := 5) rfl rfl (hS.out.res.six) rfl rfl ?_
   have hpw := hp.out
   refine ⟨_, by rw [← hpos.out]; first | (simp; done) | (simp; rfl), ?_, ?_⟩
   ·refine hV'.out.kept (fun c _ hc => ?_) ⟨same_six.1, fun c hc hl => same_six.2 c ?_ hl⟩
    ·show w.heap.size ≤ c
     have : p + 2 ≤ c := hc
     omega
    ·show c ≠ p
     have : p + 2 ≤ c := hc
     omega
   ·rw [hp.out]
    exact below_six hS.out.bel (Nat.le_refl _) _ _ _ _ _ _
  ·have hlt : q < vs.length := by omega
   obtain ⟨u, hu⟩ : ∃ u, vs[q]? = some u := ⟨_, List.getElem?_eq_getElem hlt⟩
   obtain ⟨n93, -, hsk2, -⟩ := hq.out q hlt
   have hval := hid (fun x => hv.out q u hu _ x hsk2)
   have hskn := hid (fun x => skip17_calls s (by omega) (cc q) (a (q + 1)) (hid (hss.out q hlt)) x)
   have hts := hid (take_snocR hu)
   have hlt' := hid hlt
   have hm := hid (show lenP (p + 1) 5 wr = q by unfold lenP; rw [show wr.cell? ⟨p + 1, 5, none⟩ = some (.slice so q cp) from hS.out.box.cell 5])
   obtain ⟨yc, hyc⟩ : ∃ yc, byteAt s (a q) = yc := ⟨_, rfl⟩
   rw [hyc] at hya n93 hval
   have e1 : ((yc : Int) != 93) = true := by simp; omega
   have hval2 : Hid (∀ x, Calls Tryz.prog 19 #[.string s, .int .i64 ((if yc = 44 then a q + 1 else a q : Nat) : Int)] x fun e w' => RvP (cc q) u x e w') := hval.out
   clear hqe n93 hsk2 hu hyc
   obtain ⟨wo, rfl⟩ : ∃ wo, wo = wr := ⟨_, rfl⟩
   by_cases h44 : yc = 44
   ·have e2 : ((yc : Int) == 44) = true := by simp [h44]
    rw [if_pos h44] at hval2
    push_cast at hval2
    clear h44 hval
    go_wp2_with fail
    refine Calls.mono (hval2.out _) ?_
    rintro r W4 ⟨xv, rfl, hV, hb⟩
    obtain ⟨ko, kc, vo, vc, rfl⟩ := hV.six
    have hz0 := hS.out.sz
    have V1 := hid ((hV.mono (S' := fun c => p + 2 ≤ c ∧ (Value.slice so q cp).ownBlock ≠ some c ∧ (Value.slice none 0 0).ownBlock ≠ some c) (fun c _ hc => ⟨Nat.le_trans hz0 hc, fun e => absurd (hS.out.obj.2.1.blk e).2 (Nat.not_lt.2 hc), fun e => absurd (hS.out.obj.1.blk e).2 (Nat.not_lt.2 hc)⟩)).keptB ((Below.refl _ _).alloc (Nat.le_refl _) (.cells #[.int .i64 u.kind, .bool u.b, .string u.raw, .string u.text, .slice ko u.keys.length kc, .slice vo u.kids.length vc] 25)))
    have s1 := hid ((hS.out.kept hb).kept ((Below.refl _ _).alloc (Nat.le_refl _) (.cells #[.int .i64 u.kind, .bool u.b, .string u.raw, .string u.text, .slice ko u.keys.length kc, .slice vo u.kids.length vc] 25)))
    have E1 := hid (At.new W4 #[.int .i64 u.kind, .bool u.b, .string u.raw, .string u.text, .slice ko u.keys.length kc, .slice vo u.kids.length vc] 25)
    clear hV hb hz0 hS hval2
    go_upto_region 19 with fail
    obtain ⟨pe, hpe⟩ : ∃ x, W4.heap.size = x := ⟨_, rfl⟩
    rw [hpe] at E1 ⊢
    clear hpe
    generalize W4.alloc (.cells #[.int .i64 u.kind, .bool u.b, .string u.raw, .string u.text, .slice ko u.keys.length kc, .slice vo u.kids.length vc] 25) = W5 at V1 s1 E1 ⊢
    have qz : Below W5.heap.size W5 (W5.alloc (.cells #[.int .i64 u.kind, .bool u.b, .string u.raw, .string u.text, .slice ko u.keys.length kc, .slice vo u.kids.length vc] 25)) := (Below.refl _ _).alloc (Nat.le_refl _) _
    have s2 := hid (s1.out.kept qz)
    have V2 := hid (V1.out.keptB qz)
    have hpz := hid (At.new W5 #[.int .i64 u.kind, .bool u.b, .string u.raw, .string u.text, .slice ko u.keys.length kc, .slice vo u.kids.length vc] 25)
    have t5 : W5.cell? ⟨p + 1, 5, none⟩ = some (.slice so q cp) := s1.out.box.cell 5
    have g0 := E1.out.cell 0
    have g1 := E1.out.cell 1
    have g2 := E1.out.cell 2
    have g3 := E1.out.cell 3
    have g4 := E1.out.cell 4
    have g5 := E1.out.cell 5
    simp only [List.getElem?_toArray, List.getElem?_cons_zero, List.getElem?_cons_succ] at g0 g1 g2 g3 g4 g5
    go_wp2_with (first | (at_builtin; refine wpList_kids rfl rfl rfl s2.out.obj.2.1 V2.out ⟨W5.heap.size, 0, none⟩ 1 rfl (fun j y hj => by rw [show (⟨W5.heap.size, 0, none⟩ : Addr).add j = ⟨W5.heap.size, j, none⟩ by by_cases h : j = 0 <;> simp [Addr.add, h]]; rw [hpz.out.cell j]; exact hj) (by rw [List.length_take]; omega) s2.out.sz ?_))
    intro nv y hk1 hgr hap
    obtain ⟨no, nc, rfl⟩ := hk1.shape
    have fin := hid (s2.out.kid hk1 hgr (by rw [World.size_alloc]; exact hap))
    have hbx := s2.out.low hgr (fun r hr => (s2.out.obj.2.1.blk hr).1)
    have u5 : y.cell? ⟨p + 1, 5, none⟩ = some (.slice so q cp) := hbx.cell 5
    have f5 := hbx.frozen 5
    rw [← hts.out] at fin
    obtain ⟨nn, hnn⟩ : ∃ n, (List.take q vs ++ [u]).length = n := ⟨_, rfl⟩
    have hnn' : nn = q + 1 := by rw [← hnn, List.length_append, List.length_take, List.length_singleton]; omega
    rw [hts.out, hnn, ← hts.out] at fin
    rw [hnn]
    subst hnn'
    clear hk1 hgr hap hbx s2 V2 hpz t5 qz hnn g0 g1 g2 g3 g4 g5
    go_wp2_with fail
    refine Calls.mono (hskn.out _) ?_
    rintro r W6 ⟨rfl, hw6⟩
    rw [hw6]
    have hm2 := hid (show lenP (p + 1) 5 (y.setCell ⟨p + 1, 5, none⟩ (.slice no (q + 1) nc)) = q + 1 by unfold lenP; rw [show (y.setCell ⟨p + 1, 5, none⟩ (.slice no (q + 1) nc)).cell? ⟨p + 1, 5, none⟩ = some (.slice no (q + 1) nc) from fin.out.box.cell 5])
    go_wp2
    go_roundw
    case rel => exact ⟨q + 1, nc, no, hlt'.out, rfl, fin⟩
    case measure => rw [hm2.out, hm.out]; have := hlt'.out; omega
   ·have e2 : ((yc : Int) == 44) = false := by simp; omega
    rw [if_neg h44] at hval2
    clear h44 hval
    go_wp2_with fail
    refine Calls.mono (hval2.out _) ?_
    rintro r W4 ⟨xv, rfl, hV, hb⟩
    obtain ⟨ko, kc, vo, vc, rfl⟩ := hV.six
    have hz0 := hS.out.sz
    have V1 := hid ((hV.mono (S' := fun c => p + 2 ≤ c ∧ (Value.slice so q cp).ownBlock ≠ some c ∧ (Value.slice none 0 0).ownBlock ≠ some c) (fun c _ hc => ⟨Nat.le_trans hz0 hc, fun e => absurd (hS.out.obj.2.1.blk e).2 (Nat.not_lt.2 hc), fun e => absurd (hS.out.obj.1.blk e).2 (Nat.not_lt.2 hc)⟩)).keptB ((Below.refl _ _).alloc (Nat.le_refl _) (.cells #[.int .i64 u.kind, .bool u.b, .string u.raw, .string u.text, .slice ko u.keys.length kc, .slice vo u.kids.length vc] 25)))
    have s1 := hid ((hS.out.kept hb).kept ((Below.refl _ _).alloc (Nat.le_refl _) (.cells #[.int .i64 u.kind, .bool u.b, .string u.raw, .string u.text, .slice ko u.keys.length kc, .slice vo u.kids.length vc] 25)))
    have E1 := hid (At.new W4 #[.int .i64 u.kind, .bool u.b, .string u.raw, .string u.text, .slice ko u.keys.length kc, .slice vo u.kids.length vc] 25)
    clear hV hb hz0 hS hval2
    go_upto_region 19 with fail
    obtain ⟨pe, hpe⟩ : ∃ x, W4.heap.size = x := ⟨_, rfl⟩
    rw [hpe] at E1 ⊢
    clear hpe
    generalize W4.alloc (.cells #[.int .i64 u.kind, .bool u.b, .string u.raw, .string u.text, .slice ko u.keys.length kc, .slice vo u.kids.length vc] 25) = W5 at V1 s1 E1 ⊢
    have qz : Below W5.heap.size W5 (W5.alloc (.cells #[.int .i64 u.kind, .bool u.b, .string u.raw, .string u.text, .slice ko u.keys.length kc, .slice vo u.kids.length vc] 25)) := (Below.refl _ _).alloc (Nat.le_refl _) _
    have s2 := hid (s1.out.kept qz)
    have V2 := hid (V1.out.keptB qz)
    have hpz := hid (At.new W5 #[.int .i64 u.kind, .bool u.b, .string u.raw, .string u.text, .slice ko u.keys.length kc, .slice vo u.kids.length vc] 25)
    have t5 : W5.cell? ⟨p + 1, 5, none⟩ = some (.slice so q cp) := s1.out.box.cell 5
    have g0 := E1.out.cell 0
    have g1 := E1.out.cell 1
    have g2 := E1.out.cell 2
    have g3 := E1.out.cell 3
    have g4 := E1.out.cell 4
    have g5 := E1.out.cell 5
    simp only [List.getElem?_toArray, List.getElem?_cons_zero, List.getElem?_cons_succ] at g0 g1 g2 g3 g4 g5
    go_wp2_with (first | (at_builtin; refine wpList_kids rfl rfl rfl s2.out.obj.2.1 V2.out ⟨W5.heap.size, 0, none⟩ 1 rfl (fun j y hj => by rw [show (⟨W5.heap.size, 0, none⟩ : Addr).add j = ⟨W5.heap.size, j, none⟩ by by_cases h : j = 0 <;> simp [Addr.add, h]]; rw [hpz.out.cell j]; exact hj) (by rw [List.length_take]; omega) s2.out.sz ?_))
    intro nv y hk1 hgr hap
    obtain ⟨no, nc, rfl⟩ := hk1.shape
    have fin := hid (s2.out.kid hk1 hgr (by rw [World.size_alloc]; exact hap))
    have hbx := s2.out.low hgr (fun r hr => (s2.out.obj.2.1.blk hr).1)
    have u5 : y.cell? ⟨p + 1, 5, none⟩ = some (.slice so q cp) := hbx.cell 5
    have f5 := hbx.frozen 5
    rw [← hts.out] at fin
    obtain ⟨nn, hnn⟩ : ∃ n, (List.take q vs ++ [u]).length = n := ⟨_, rfl⟩
    have hnn' : nn = q + 1 := by rw [← hnn, List.length_append, List.length_take, List.length_singleton]; omega
    rw [hts.out, hnn, ← hts.out] at fin
    rw [hnn]
    subst hnn'
    clear hk1 hgr hap hbx s2 V2 hpz t5 qz hnn g0 g1 g2 g3 g4 g5
    go_wp2_with fail
    refine Calls.mono (hskn.out _) ?_
    rintro r W6 ⟨rfl, hw6⟩
    rw [hw6]
    have hm2 := hid (show lenP (p + 1) 5 (y.setCell ⟨p + 1, 5, none⟩ (.slice no (q + 1) nc)) = q + 1 by unfold lenP; rw [show (y.setCell ⟨p + 1, 5, none⟩ (.slice no (q + 1) nc)).cell? ⟨p + 1, 5, none⟩ = some (.slice no (q + 1) nc) from fin.out.box.cell 5])
    go_wp2
    go_roundw
    case rel => exact ⟨q + 1, nc, no, hlt'.out, rfl, fin⟩
    case measure => rw [hm2.out, hm.out]; have := hlt'.out; omega
set_option maxRecDepth 10000 in
set_option maxHeartbeats 4000000 in
theorem rv_obj (s : ByteArray) (hs : s.size ≤ 1048576) (i k : Nat) (hk : k < s.size) (hc : byteAt s k = 123) (ks : List ByteArray) (vs : List Vt) (hkv : ks.length = vs.length) (a nn0 mm dd bb cc : Nat → Nat) (h0 : Hid (IsSkip s (k + 1) (a 0)))
  (hq : Hid (∀ q, q < vs.length → byteAt s (a q) ≠ 125 ∧ a q < s.size ∧ IsSkip s (if byteAt s (a q) = 44 then a q + 1 else a q) (nn0 q) ∧ nn0 q < s.size ∧ IsSkip s (mm q) (dd q) ∧ dd q < s.size ∧ IsSkip s (dd q + 1) (bb q) ∧ bb q < s.size))
  (hkk : Hid (∀ (q : Nat) (K : ByteArray), ks[q]? = some K → Txt s (nn0 q) (mm q) K))
  (hv : Hid (∀ (q : Nat) (u : Vt), vs[q]? = some u → ∀ (z : Nat) (x : World), IsSkip s z (bb q) → Calls Tryz.prog 19 #[.string s, .int .i64 (z : Int)] x fun e w' => RvP (cc q) u x e w'))
  (hss : Hid (∀ q, q < vs.length → IsSkip s (cc q) (a (q + 1)))) (he : Hid (byteAt s (a vs.length) = 125)) (hn : Hid (a vs.length < s.size)) (hlen : vs.length ≤ 1048576) (w : World) (hsk : Hid (IsSkip s i k)) :
  Calls Tryz.prog 19 #[.string s, .int .i64 (i : Int)] w fun e w' => RvP (a vs.length + 1) (.mk 6 false ⟨#[]⟩ ⟨#[]⟩ ks vs) w e w' := by
 have hsk1 := hid (fun u => skip17_calls s (by omega) i k hsk u)
 have hki : (k : Int) < (s.size : Int) := by omega
 have hsi : (s.size : Int) ≤ 1048576 := by omega
 have hy := byteAt_eq s k hk
 obtain ⟨p, hp⟩ : ∃ p, Hid (w.heap.size = p) := ⟨_, rfl⟩
 have A0 : Hid (At (w.alloc (.cells #[.int .i64 0, .bool false, .string ⟨#[]⟩, .string ⟨#[]⟩, .slice none 0 0, .slice none 0 0] 25)) p #[.int .i64 0, .bool false, .string ⟨#[]⟩, .string ⟨#[]⟩, .slice none 0 0, .slice none 0 0] 25) := by
  have h := At.new w #[.int .i64 0, .bool false, .string ⟨#[]⟩, .string ⟨#[]⟩, .slice none 0 0, .slice none 0 0] 25
  rw [hp.out] at h
  exact h
 have B0 : Hid (Below p w (w.alloc (.cells #[.int .i64 0, .bool false, .string ⟨#[]⟩, .string ⟨#[]⟩, .slice none 0 0, .slice none 0 0] 25))) := by rw [← hp.out]; exact (Below.refl _ w).alloc (Nat.le_refl _) _
 have z0 : Hid ((w.alloc (.cells #[.int .i64 0, .bool false, .string ⟨#[]⟩, .string ⟨#[]⟩, .slice none 0 0, .slice none 0 0] 25)).heap.size = p + 1) := by show _ = _; rw [World.size_alloc, hp.out]
 rw [hc] at hy
 have hkv' := hid hkv
 clear hc hkv
 have hskA := hid (fun u => skip17_calls s (by omega) (k + 1) (a 0) h0 u)
 push_cast at hskA
 go_enter Tryz.func19, Tryz.ntmps19
 go_upto_region 1 with fail
 rw [hp.out]
 generalize w.alloc (.cells #[.int .i64 0, .bool false, .string ⟨#[]⟩, .string ⟨#[]⟩, .slice none 0 0, .slice none 0 0] 25) = W0 at A0 B0 z0 ⊢
 go_wp2_with fail
 refine Calls.mono (hsk1.out W0) ?_
 rintro e W1 ⟨rfl, hw1⟩
 rw [hw1]
 clear hw1 hsk1
 have S0 : Hid (RcS p w 6 (.slice none 0 0) (.slice none 0 0) [] [] (W0.alloc (.cells #[.int .i64 6, .bool false, .string ⟨#[]⟩, .string ⟨#[]⟩, .slice none 0 0, .slice none 0 0] 25))) := by
  have b0 := At.new W0 #[.int .i64 6, .bool false, .string ⟨#[]⟩, .string ⟨#[]⟩, .slice none 0 0, .slice none 0 0] 25
  rw [z0.out] at b0
  exact ⟨A0.out.alloc _, b0, ObjG.nil _ _, by rw [World.size_alloc, z0.out]; exact Nat.le_refl _, B0.out.alloc (by rw [z0.out]; omega) _⟩
 go_upto_region 24 with fail
 rw [z0.out]
 clear A0 B0 z0
 generalize W0.alloc (.cells #[.int .i64 6, .bool false, .string ⟨#[]⟩, .string ⟨#[]⟩, .slice none 0 0, .slice none 0 0] 25) = W2 at S0 ⊢
 go_wp2_with fail
 refine Calls.mono (hskA.out W2) ?_
 rintro e W3 ⟨rfl, hw3⟩
 rw [hw3]
 clear hw3 hskA
 go_wp2
 go_loopw [1, 12, 13, 14, 15] (fun at_ _ _ _ _ wr => ∃ (q ck cp : Nat) (sk so : Option Addr), q ≤ vs.length ∧ at_ = .int .i64 (a q : Int) ∧ Hid (RcS p w 6 (.slice sk q ck) (.slice so q cp) (ks.take q) (vs.take q) wr)) (fun _ _ _ _ _ wr => vs.length - lenP (p + 1) 5 wr)
 case atStart => exact ⟨0, 0, 0, none, none, Nat.zero_le _, rfl, S0⟩
 case round =>
  obtain ⟨q, ck, cp, sk, so, hql, rfl, hS⟩ := hrel
  clear S0
  have haq : a q < s.size := by
   by_cases e : q = vs.length
   ·rw [e]; exact hn.out
   ·exact (hq.out q (by omega)).2.1
  have haqi : (a q : Int) < (s.size : Int) := by omega
  have hya := byteAt_eq s (a q) haq
  have hnb : Hid (blankN (byteAt s (a q)) = false) := by
   have h : ∃ z, IsSkip s z (a q) := by
    cases q with
    | zero => exact ⟨_, h0.out⟩
    | succ q => exact ⟨_, hss.out q (by omega)⟩
   obtain ⟨z, -, -, -, h⟩ := h
   rcases h with h | h
   ·omega
   ·exact h
  by_cases hqe : q = vs.length
  ·have e93 : byteAt s (a q) = 125 := by rw [hqe]; exact he.out
   rw [e93] at hya
   have htk := hid (show vs.take q = vs by rw [hqe]; exact List.take_length)
   have htk2 := hid (show ks.take q = ks by rw [hqe, ← hkv'.out]; exact List.take_length)
   have hpos := hid (show a q + 1 = a vs.length + 1 by rw [hqe])
   rw [htk.out, htk2.out] at hS
   clear hqe e93 htk htk2
   obtain ⟨z1, z2, hV⟩ := hS.out.done (by decide) (by rw [hkv'.out]; unfold capT; omega) (by unfold capT; omega)
   have hV' := hid hV
   clear z1 z2 hV
   have e0 := hS.out.box.cell 0
   have e1 := hS.out.box.cell 1
   have e2 := hS.out.box.cell 2
   have e3 := hS.out.box.cell 3
   have e4 := hS.out.box.cell 4
   have e5 := hS.out.box.cell 5
   simp only [List.getElem?_toArray, List.getElem?_cons_zero, List.getElem?_cons_succ] at e0 e1 e2 e3 e4 e5
   have d0 := hS.out.res.cell 0
   have d1 := hS.out.res.cell 1
   have d2 := hS.out.res.cell 2
   have d3 := hS.out.res.cell 3
   have d4 := hS.out.res.cell 4
   have d5 := hS.out.res.cell 5
   simp only [List.getElem?_toArray, List.getElem?_cons_zero, List.getElem?_cons_succ] at d0 d1 d2 d3 d4 d5
   have f0 := hS.out.res.frozen 0
   have f1 := hS.out.res.frozen 1
   have f2 := hS.out.res.frozen 2
   have f3 := hS.out.res.frozen 3
   have f4 := hS.out.res.frozen 4
   have f5 := hS.out.res.frozen 5
   go_wp2
   refine ret_val2 (p := 4) (u := 5) rfl rfl (hS.out.res.six) rfl rfl ?_
   have hpw := hp.out
   refine ⟨_, by rw [← hpos.out]; first | (simp; done) | (simp; rfl), ?_, ?_⟩
   ·refine hV'.out.kept (fun c _ hc => ?_) ⟨same_six.1, fun c hc hl => same_six.2 c ?_ hl⟩
    ·show w.heap.size ≤ c
     have : p + 2 ≤ c := hc
     omega
    ·show c ≠ p
     have : p + 2 ≤ c := hc
     omega
   ·rw [hp.out]
    exact below_six hS.out.bel (Nat.le_refl _) _ _ _ _ _ _
  ·have hlt : q < vs.length := by omega
   obtain ⟨u, hu⟩ : ∃ u, vs[q]? = some u := ⟨_, List.getElem?_eq_getElem hlt⟩
   obtain ⟨KN, hKq⟩ : ∃ K, ks[q]? = some K := ⟨_, List.getElem?_eq_getElem (by rw [hkv'.out]; exact hlt)⟩
   obtain ⟨n93, -, hsk2, hnl, hsk3, hdl, hsk4, -⟩ := hq.out q hlt
   have hval := hid (fun x => hv.out q u hu _ x hsk4)
   push_cast at hval
   have hTx := hkk.out q KN hKq
   have hKs : Hid (KN.size ≤ capT) := by have := hTx.len; show _ ≤ _; unfold capT; omega
   obtain ⟨-, e, hQ, hj, hU⟩ := hTx
   have htx := hid (fun x => text17_calls s hs (nn0 q) e (hid hQ) KN _ (hid (show unS (s.extract (nn0 q + 1) e) = (KN, (unS (s.extract (nn0 q + 1) e)).2) by rw [← hU])) x)
   generalize (unS (s.extract (nn0 q + 1) e)).2 = E2 at htx
   have hskd := hid (fun x => skip17_calls s (by omega) (mm q) (dd q) (hid hsk3) x)
   rw [hj] at hskd
   push_cast at hskd
   have hskn := hid (fun x => skip17_calls s (by omega) (cc q) (a (q + 1)) (hid (hss.out q hlt)) x)
   have hts := hid (take_snocR hu)
   have htk := hid (take_snocR hKq)
   have hlt' := hid hlt
   have hdli : (dd q : Int) + 1 ≤ (s.size : Int) := by omega
   have hm := hid (show lenP (p + 1) 5 wr = q by unfold lenP; rw [show wr.cell? ⟨p + 1, 5, none⟩ = some (.slice so q cp) from hS.out.box.cell 5])
   obtain ⟨yc, hyc⟩ : ∃ yc, byteAt s (a q) = yc := ⟨_, rfl⟩
   rw [hyc] at hya n93 hsk2 hnb
   have e1 : ((yc : Int) != 125) = true := by simp; omega
   clear hqe n93 hsk3 hsk4 hu hKq hQ hj hU
   obtain ⟨wo, rfl⟩ : ∃ wo, wo = wr := ⟨_, rfl⟩
   by_cases h44 : yc = 44
   ·have e2 : ((yc : Int) == 44) = true := by simp [h44]
    rw [if_pos h44] at hsk2
    have hskc := hid (fun x => skip17_calls s (by omega) (a q + 1) (nn0 q) (hid hsk2) x)
    push_cast at hskc
    clear h44 hsk2
    go_wp2_with fail
    refine Calls.mono (hskc.out _) ?_
    rintro r Wc ⟨rfl, hwc⟩
    rw [hwc]
    clear hwc hskc
    go_wp2_with fail
    refine Calls.mono (htx.out _) ?_
    rintro r Wt ⟨rfl, hbt⟩
    have S1 := hid (hS.out.kept hbt)
    clear hS hbt htx
    go_wp2_with fail
    refine Calls.mono (hskd.out _) ?_
    rintro r Wd ⟨rfl, hwd⟩
    rw [hwd]
    clear hwd hskd
    go_wp2_with fail
    refine Calls.mono (hval.out _) ?_
    rintro r W4 ⟨xv, rfl, hV, hb⟩
    obtain ⟨ko, kc, vo, vc, rfl⟩ := hV.six
    have hz0 := S1.out.sz
    have V1 := hid ((hV.mono (S' := fun c => p + 2 ≤ c ∧ (Value.slice so q cp).ownBlock ≠ some c ∧ (Value.slice sk q ck).ownBlock ≠ some c) (fun c _ hc => ⟨Nat.le_trans hz0 hc, fun e => absurd (S1.out.obj.2.1.blk e).2 (Nat.not_lt.2 hc), fun e => absurd (S1.out.obj.1.blk e).2 (Nat.not_lt.2 hc)⟩)).keptB ((Below.refl _ _).alloc (Nat.le_refl _) (.cells #[.int .i64 u.kind, .bool u.b, .string u.raw, .string u.text, .slice ko u.keys.length kc, .slice vo u.kids.length vc] 25)))
    have s1 := hid ((S1.out.kept hb).kept ((Below.refl _ _).alloc (Nat.le_refl _) (.cells #[.int .i64 u.kind, .bool u.b, .string u.raw, .string u.text, .slice ko u.keys.length kc, .slice vo u.kids.length vc] 25)))
    have E1 := hid (At.new W4 #[.int .i64 u.kind, .bool u.b, .string u.raw, .string u.text, .slice ko u.keys.length kc, .slice vo u.kids.length vc] 25)
    have hsl : p + 2 ≤ W4.heap.size := Nat.le_trans hz0 hb.size
    clear hV hb hz0 S1 hval
    go_upto_region 31 with fail
    obtain ⟨pe, hpe⟩ : ∃ x, W4.heap.size = x := ⟨_, rfl⟩
    rw [hpe] at E1 ⊢
    have hpne : Hid (pe ≠ p + 1) := by have h1 := s1.out.sz; have h2 := hsl; rw [hpe] at h2; show _ ≠ _; omega
    clear hpe hsl
    generalize W4.alloc (.cells #[.int .i64 u.kind, .bool u.b, .string u.raw, .string u.text, .slice ko u.keys.length kc, .slice vo u.kids.length vc] 25) = W5 at V1 s1 E1 ⊢
    have qk : Below W5.heap.size W5 (W5.alloc (.cells #[.string KN] 9)) := (Below.refl _ _).alloc (Nat.le_refl _) _
    have s1k := hid (s1.out.kept qk)
    have V1k := hid (V1.out.keptB qk)
    have E1k := hid (E1.out.keptAll qk)
    have hpk := hid (At.new W5 #[.string KN] 9)
    have t4 : W5.cell? ⟨p + 1, 4, none⟩ = some (.slice sk q ck) := s1.out.box.cell 4
    go_wp2_with (first | (at_builtin; refine wpList_keys rfl rfl rfl s1k.out.obj.1 hKs.out ⟨W5.heap.size, 0, none⟩ 1 rfl (by simp [Addr.add]) (by rw [List.length_take]; omega) s1k.out.sz ?_))
    intro nk yk hk1 hgr hap
    obtain ⟨mo, mc, rfl⟩ := hk1.shape
    have hap' : (Value.slice mo (List.take q ks ++ [KN]).length mc).ownBlock = (Value.slice sk q ck).ownBlock ∨ ∃ g, (Value.slice mo (List.take q ks ++ [KN]).length mc).ownBlock = some g ∧ (W5.alloc (.cells #[.string KN] 9)).heap.size ≤ g := by rw [World.size_alloc]; exact hap
    have fin0 := hid (s1k.out.key hk1 hgr hap')
    have hbx := s1k.out.low hgr (fun r hr => (s1k.out.obj.1.blk hr).1)
    have u4 : yk.cell? ⟨p + 1, 4, none⟩ = some (.slice sk q ck) := hbx.cell 4
    have f4 := hbx.frozen 4
    have hpeE : Hid (At yk pe #[.int .i64 u.kind, .bool u.b, .string u.raw, .string u.text, .slice ko u.keys.length kc, .slice vo u.kids.length vc] 25) := (hgr.block pe E1k.out.lt (fun e => own_ne s1k.out.obj.1.1 E1k.out (by decide) e.symm)).trans E1k.out
    have hVy : Hid (ValOn (fun c => p + 2 ≤ c ∧ (Value.slice so q cp).ownBlock ≠ some c ∧ (Value.slice mo (List.take q ks ++ [KN]).length mc).ownBlock ≠ some c) (yk.setCell ⟨p + 1, 4, none⟩ (.slice mo (List.take q ks ++ [KN]).length mc)) u (.agg #[.int .i64 u.kind, .bool u.b, .string u.raw, .string u.text, .slice ko u.keys.length kc, .slice vo u.kids.length vc])) := by
     refine V1k.out.kept (fun c hc h => ⟨h.1, h.2.1, ?_⟩) ⟨by have := hgr.size; rw [World.size_alloc] at this; simp; omega, fun c h hl => ?_⟩
     ·rcases hap' with e | ⟨g0, e, hg0⟩
      ·rw [e]; exact h.2.2
      ·rw [e]; intro hx; injection hx with hx; omega
     ·rw [Below.heap_setCell _ _ _ _ (show c ≠ p + 1 by have : p + 2 ≤ c := h.1; omega)]
      exact hgr.block c hl (fun e => h.2.2 e.symm)
    have hEy : Hid (At (yk.setCell ⟨p + 1, 4, none⟩ (.slice mo (List.take q ks ++ [KN]).length mc)) pe #[.int .i64 u.kind, .bool u.b, .string u.raw, .string u.text, .slice ko u.keys.length kc, .slice vo u.kids.length vc] 25) := hpeE.out.other (p := ⟨p + 1, 4, none⟩) hpne.out _
    rw [← htk.out] at fin0
    obtain ⟨nn, hnn⟩ : ∃ n, (List.take q ks ++ [KN]).length = n := ⟨_, rfl⟩
    have hnn' : nn = q + 1 := by rw [← hnn, List.length_append, List.length_take, List.length_singleton]; have := hkv'.out; omega
    rw [htk.out, hnn, ← htk.out] at fin0
    rw [hnn] at hVy hEy ⊢
    subst hnn'
    clear hk1 hgr hap hap' hbx s1k V1k E1k hpk t4 qk hnn hpeE s1 V1 E1
    go_upto_region 32 with fail
    clear u4 f4
    generalize yk.setCell ⟨p + 1, 4, none⟩ (.slice mo (q + 1) mc) = W5 at fin0 hVy hEy ⊢
    obtain ⟨s1, V1, E1⟩ : Hid (RcS p w 6 (.slice mo (q + 1) mc) (.slice so q cp) (ks.take (q + 1)) (vs.take q) W5) ∧ Hid (ValOn (fun c => p + 2 ≤ c ∧ (Value.slice so q cp).ownBlock ≠ some c ∧ (Value.slice mo (q + 1) mc).ownBlock ≠ some c) W5 u (.agg #[.int .i64 u.kind, .bool u.b, .string u.raw, .string u.text, .slice ko u.keys.length kc, .slice vo u.kids.length vc])) ∧ Hid (At W5 pe #[.int .i64 u.kind, .bool u.b, .string u.raw, .string u.text, .slice ko u.keys.length kc, .slice vo u.kids.length vc] 25) := ⟨fin0, hVy, hEy⟩
    clear fin0 hVy hEy
    have qz : Below W5.heap.size W5 (W5.alloc (.cells #[.int .i64 u.kind, .bool u.b, .string u.raw, .string u.text, .slice ko u.keys.length kc, .slice vo u.kids.length vc] 25)) := (Below.refl _ _).alloc (Nat.le_refl _) _
    have s2 := hid (s1.out.kept qz)
    have V2 := hid (V1.out.keptB qz)
    have hpz := hid (At.new W5 #[.int .i64 u.kind, .bool u.b, .string u.raw, .string u.text, .slice ko u.keys.length kc, .slice vo u.kids.length vc] 25)
    have t5 : W5.cell? ⟨p + 1, 5, none⟩ = some (.slice so q cp) := s1.out.box.cell 5
    have g0 := E1.out.cell 0
    have g1 := E1.out.cell 1
    have g2 := E1.out.cell 2
    have g3 := E1.out.cell 3
    have g4 := E1.out.cell 4
    have g5 := E1.out.cell 5
    simp only [List.getElem?_toArray, List.getElem?_cons_zero, List.getElem?_cons_succ] at g0 g1 g2 g3 g4 g5
    go_wp2_with (first | (at_builtin; refine wpList_kids rfl rfl rfl s2.out.obj.2.1 V2.out ⟨W5.heap.size, 0, none⟩ 1 rfl (fun j y hj => by rw [show (⟨W5.heap.size, 0, none⟩ : Addr).add j = ⟨W5.heap.size, j, none⟩ by by_cases h : j = 0 <;> simp [Addr.add, h]]; rw [hpz.out.cell j]; exact hj) (by rw [List.length_take]; omega) s2.out.sz ?_))
    intro nv y hk1 hgr hap
    obtain ⟨no, nc, rfl⟩ := hk1.shape
    have fin := hid (s2.out.kid hk1 hgr (by rw [World.size_alloc]; exact hap))
    have hbx := s2.out.low hgr (fun r hr => (s2.out.obj.2.1.blk hr).1)
    have u5 : y.cell? ⟨p + 1, 5, none⟩ = some (.slice so q cp) := hbx.cell 5
    have f5 := hbx.frozen 5
    rw [← hts.out] at fin
    obtain ⟨nn, hnn⟩ : ∃ n, (List.take q vs ++ [u]).length = n := ⟨_, rfl⟩
    have hnn' : nn = q + 1 := by rw [← hnn, List.length_append, List.length_take, List.length_singleton]; omega
    rw [hts.out, hnn, ← hts.out] at fin
    rw [hnn]
    subst hnn'
    clear hk1 hgr hap hbx s2 V2 hpz t5 qz hnn g0 g1 g2 g3 g4 g5
    go_wp2_with fail
    refine Calls.mono (hskn.out _) ?_
    rintro r W6 ⟨rfl, hw6⟩
    rw [hw6]
    have hm2 := hid (show lenP (p + 1) 5 (y.setCell ⟨p + 1, 5, none⟩ (.slice no (q + 1) nc)) = q + 1 by unfold lenP; rw [show (y.setCell ⟨p + 1, 5, none⟩ (.slice no (q + 1) nc)).cell? ⟨p + 1, 5, none⟩ = some (.slice no (q + 1) nc) from fin.out.box.cell 5])
    go_wp2
    go_roundw
    case rel => exact ⟨q + 1, mc, nc, mo, no, hlt'.out, rfl, fin⟩
    case measure => rw [hm2.out, hm.out]; have := hlt'.out; omega
   ·have e2 : ((yc : Int) == 44) = false := by simp; omega
    rw [if_neg h44] at hsk2
    have hna : nn0 q = a q := by
     obtain ⟨g1, g2, g3, g4⟩ := hsk2
     by_cases h : a q < nn0 q
     ·have := g3 (a q) (Nat.le_refl _) h
      rw [hyc, hnb.out] at this
      cases this
     ·omega
    rw [hna] at htx
    clear h44 hsk2 hna
    go_wp2_with fail
    refine Calls.mono (htx.out _) ?_
    rintro r Wt ⟨rfl, hbt⟩
    have S1 := hid (hS.out.kept hbt)
    clear hS hbt htx
    go_wp2_with fail
    refine Calls.mono (hskd.out _) ?_
    rintro r Wd ⟨rfl, hwd⟩
    rw [hwd]
    clear hwd hskd
    go_wp2_with fail
    refine Calls.mono (hval.out _) ?_
    rintro r W4 ⟨xv, rfl, hV, hb⟩
    obtain ⟨ko, kc, vo, vc, rfl⟩ := hV.six
    have hz0 := S1.out.sz
    have V1 := hid ((hV.mono (S' := fun c => p + 2 ≤ c ∧ (Value.slice so q cp).ownBlock ≠ some c ∧ (Value.slice sk q ck).ownBlock ≠ some c) (fun c _ hc => ⟨Nat.le_trans hz0 hc, fun e => absurd (S1.out.obj.2.1.blk e).2 (Nat.not_lt.2 hc), fun e => absurd (S1.out.obj.1.blk e).2 (Nat.not_lt.2 hc)⟩)).keptB ((Below.refl _ _).alloc (Nat.le_refl _) (.cells #[.int .i64 u.kind, .bool u.b, .string u.raw, .string u.text, .slice ko u.keys.length kc, .slice vo u.kids.length vc] 25)))
    have s1 := hid ((S1.out.kept hb).kept ((Below.refl _ _).alloc (Nat.le_refl _) (.cells #[.int .i64 u.kind, .bool u.b, .string u.raw, .string u.text, .slice ko u.keys.length kc, .slice vo u.kids.length vc] 25)))
    have E1 := hid (At.new W4 #[.int .i64 u.kind, .bool u.b, .string u.raw, .string u.text, .slice ko u.keys.length kc, .slice vo u.kids.length vc] 25)
    have hsl : p + 2 ≤ W4.heap.size := Nat.le_trans hz0 hb.size
    clear hV hb hz0 S1 hval
    go_upto_region 31 with fail
    obtain ⟨pe, hpe⟩ : ∃ x, W4.heap.size = x := ⟨_, rfl⟩
    rw [hpe] at E1 ⊢
    have hpne : Hid (pe ≠ p + 1) := by have h1 := s1.out.sz; have h2 := hsl; rw [hpe] at h2; show _ ≠ _; omega
    clear hpe hsl
    generalize W4.alloc (.cells #[.int .i64 u.kind, .bool u.b, .string u.raw, .string u.text, .slice ko u.keys.length kc, .slice vo u.kids.length vc] 25) = W5 at V1 s1 E1 ⊢
    have qk : Below W5.heap.size W5 (W5.alloc (.cells #[.string KN] 9)) := (Below.refl _ _).alloc (Nat.le_refl _) _
    have s1k := hid (s1.out.kept qk)
    have V1k := hid (V1.out.keptB qk)
    have E1k := hid (E1.out.keptAll qk)
    have hpk := hid (At.new W5 #[.string KN] 9)
    have t4 : W5.cell? ⟨p + 1, 4, none⟩ = some (.slice sk q ck) := s1.out.box.cell 4
    go_wp2_with (first | (at_builtin; refine wpList_keys rfl rfl rfl s1k.out.obj.1 hKs.out ⟨W5.heap.size, 0, none⟩ 1 rfl (by simp [Addr.add]) (by rw [List.length_take]; omega) s1k.out.sz ?_))
    intro nk yk hk1 hgr hap
    obtain ⟨mo, mc, rfl⟩ := hk1.shape
    have hap' : (Value.slice mo (List.take q ks ++ [KN]).length mc).ownBlock = (Value.slice sk q ck).ownBlock ∨ ∃ g, (Value.slice mo (List.take q ks ++ [KN]).length mc).ownBlock = some g ∧ (W5.alloc (.cells #[.string KN] 9)).heap.size ≤ g := by rw [World.size_alloc]; exact hap
    have fin0 := hid (s1k.out.key hk1 hgr hap')
    have hbx := s1k.out.low hgr (fun r hr => (s1k.out.obj.1.blk hr).1)
    have u4 : yk.cell? ⟨p + 1, 4, none⟩ = some (.slice sk q ck) := hbx.cell 4
    have f4 := hbx.frozen 4
    have hpeE : Hid (At yk pe #[.int .i64 u.kind, .bool u.b, .string u.raw, .string u.text, .slice ko u.keys.length kc, .slice vo u.kids.length vc] 25) := (hgr.block pe E1k.out.lt (fun e => own_ne s1k.out.obj.1.1 E1k.out (by decide) e.symm)).trans E1k.out
    have hVy : Hid (ValOn (fun c => p + 2 ≤ c ∧ (Value.slice so q cp).ownBlock ≠ some c ∧ (Value.slice mo (List.take q ks ++ [KN]).length mc).ownBlock ≠ some c) (yk.setCell ⟨p + 1, 4, none⟩ (.slice mo (List.take q ks ++ [KN]).length mc)) u (.agg #[.int .i64 u.kind, .bool u.b, .string u.raw, .string u.text, .slice ko u.keys.length kc, .slice vo u.kids.length vc])) := by
     refine V1k.out.kept (fun c hc h => ⟨h.1, h.2.1, ?_⟩) ⟨by have := hgr.size; rw [World.size_alloc] at this; simp; omega, fun c h hl => ?_⟩
     ·rcases hap' with e | ⟨g0, e, hg0⟩
      ·rw [e]; exact h.2.2
      ·rw [e]; intro hx; injection hx with hx; omega
     ·rw [Below.heap_setCell _ _ _ _ (show c ≠ p + 1 by have : p + 2 ≤ c := h.1; omega)]
      exact hgr.block c hl (fun e => h.2.2 e.symm)
    have hEy : Hid (At (yk.setCell ⟨p + 1, 4, none⟩ (.slice mo (List.take q ks ++ [KN]).length mc)) pe #[.int .i64 u.kind, .bool u.b, .string u.raw, .string u.text, .slice ko u.keys.length kc, .slice vo u.kids.length vc] 25) := hpeE.out.other (p := ⟨p + 1, 4, none⟩) hpne.out _
    rw [← htk.out] at fin0
    obtain ⟨nn, hnn⟩ : ∃ n, (List.take q ks ++ [KN]).length = n := ⟨_, rfl⟩
    have hnn' : nn = q + 1 := by rw [← hnn, List.length_append, List.length_take, List.length_singleton]; have := hkv'.out; omega
    rw [htk.out, hnn, ← htk.out] at fin0
    rw [hnn] at hVy hEy ⊢
    subst hnn'
    clear hk1 hgr hap hap' hbx s1k V1k E1k hpk t4 qk hnn hpeE s1 V1 E1
    go_upto_region 32 with fail
    clear u4 f4
    generalize yk.setCell ⟨p + 1, 4, none⟩ (.slice mo (q + 1) mc) = W5 at fin0 hVy hEy ⊢
    obtain ⟨s1, V1, E1⟩ : Hid (RcS p w 6 (.slice mo (q + 1) mc) (.slice so q cp) (ks.take (q + 1)) (vs.take q) W5) ∧ Hid (ValOn (fun c => p + 2 ≤ c ∧ (Value.slice so q cp).ownBlock ≠ some c ∧ (Value.slice mo (q + 1) mc).ownBlock ≠ some c) W5 u (.agg #[.int .i64 u.kind, .bool u.b, .string u.raw, .string u.text, .slice ko u.keys.length kc, .slice vo u.kids.length vc])) ∧ Hid (At W5 pe #[.int .i64 u.kind, .bool u.b, .string u.raw, .string u.text, .slice ko u.keys.length kc, .slice vo u.kids.length vc] 25) := ⟨fin0, hVy, hEy⟩
    clear fin0 hVy hEy
    have qz : Below W5.heap.size W5 (W5.alloc (.cells #[.int .i64 u.kind, .bool u.b, .string u.raw, .string u.text, .slice ko u.keys.length kc, .slice vo u.kids.length vc] 25)) := (Below.refl _ _).alloc (Nat.le_refl _) _
    have s2 := hid (s1.out.kept qz)
    have V2 := hid (V1.out.keptB qz)
    have hpz := hid (At.new W5 #[.int .i64 u.kind, .bool u.b, .string u.raw, .string u.text, .slice ko u.keys.length kc, .slice vo u.kids.length vc] 25)
    have t5 : W5.cell? ⟨p + 1, 5, none⟩ = some (.slice so q cp) := s1.out.box.cell 5
    have g0 := E1.out.cell 0
    have g1 := E1.out.cell 1
    have g2 := E1.out.cell 2
    have g3 := E1.out.cell 3
    have g4 := E1.out.cell 4
    have g5 := E1.out.cell 5
    simp only [List.getElem?_toArray, List.getElem?_cons_zero, List.getElem?_cons_succ] at g0 g1 g2 g3 g4 g5
    go_wp2_with (first | (at_builtin; refine wpList_kids rfl rfl rfl s2.out.obj.2.1 V2.out ⟨W5.heap.size, 0, none⟩ 1 rfl (fun j y hj => by rw [show (⟨W5.heap.size, 0, none⟩ : Addr).add j = ⟨W5.heap.size, j, none⟩ by by_cases h : j = 0 <;> simp [Addr.add, h]]; rw [hpz.out.cell j]; exact hj) (by rw [List.length_take]; omega) s2.out.sz ?_))
    intro nv y hk1 hgr hap
    obtain ⟨no, nc, rfl⟩ := hk1.shape
    have fin := hid (s2.out.kid hk1 hgr (by rw [World.size_alloc]; exact hap))
    have hbx := s2.out.low hgr (fun r hr => (s2.out.obj.2.1.blk hr).1)
    have u5 : y.cell? ⟨p + 1, 5, none⟩ = some (.slice so q cp) := hbx.cell 5
    have f5 := hbx.frozen 5
    rw [← hts.out] at fin
    obtain ⟨nn, hnn⟩ : ∃ n, (List.take q vs ++ [u]).length = n := ⟨_, rfl⟩
    have hnn' : nn = q + 1 := by rw [← hnn, List.length_append, List.length_take, List.length_singleton]; omega
    rw [hts.out, hnn, ← hts.out] at fin
    rw [hnn]
    subst hnn'
    clear hk1 hgr hap hbx s2 V2 hpz t5 qz hnn g0 g1 g2 g3 g4 g5
    go_wp2_with fail
    refine Calls.mono (hskn.out _) ?_
    rintro r W6 ⟨rfl, hw6⟩
    rw [hw6]
    have hm2 := hid (show lenP (p + 1) 5 (y.setCell ⟨p + 1, 5, none⟩ (.slice no (q + 1) nc)) = q + 1 by unfold lenP; rw [show (y.setCell ⟨p + 1, 5, none⟩ (.slice no (q + 1) nc)).cell? ⟨p + 1, 5, none⟩ = some (.slice no (q + 1) nc) from fin.out.box.cell 5])
    go_wp2
    go_roundw
    case rel => exact ⟨q + 1, mc, nc, mo, no, hlt'.out, rfl, fin⟩
    case measure => rw [hm2.out, hm.out]; have := hlt'.out; omega
theorem rv_pv {s : ByteArray} (hs : s.size ≤ 1048576) {k j : Nat} {t : Vt} (h : PV s k t j) :
  ∀ (i : Nat) (w : World), IsSkip s i k → Calls Tryz.prog 19 #[.string s, .int .i64 (i : Int)] w fun e w' => RvP j t w e w' := by
 induction h with
 | null i h hl => exact fun z w hsk => rv_null s hs z i (by omega) hl h w (hid hsk)
 | yes i h hl => exact fun z w hsk => rv_yes s hs z i (by omega) hl h w (hid hsk)
 | no i h hl => exact fun z w hsk => rv_no s hs z i (by omega) hl h w (hid hsk)
 | text i j T h => exact fun z w hsk => rv_text s hs z i j h.le.1 T (hid h) w (hid hsk)
 | num i j h hc hj hl hs2 => exact fun z w hsk => rv_num s hs z i j h hc hj hl hs2 w (hid hsk)
 | arr i vs a bb cc h h0 hq hv hss he hn ih =>
  have hi : i < s.size := byteAt_in (by rw [h]; decide)
  have hlen := arr_len (fun q hl => by have := (hq q hl).2.2.1.1; split at this <;> omega) hv hss _ (Nat.le_refl _)
  exact fun z w hsk => rv_arr s hs z i hi h vs a bb cc (hid h0) (hid hq) (hid (fun q y hy z x hz => ih q y hy z x hz)) (hid hss) (hid he) (hid hn) (by omega) w (hid hsk)
 | obj i ks vs hkv a nn mm dd bb cc h h0 hq hk hv hss he hn ih =>
  have hi : i < s.size := byteAt_in (by rw [h]; decide)
  have hlen := arr_len (fun q hl => by
   obtain ⟨-, -, g1, -, g2, -, g3, -⟩ := hq q hl
   have g4 := (hk q _ (List.getElem?_eq_getElem (show q < ks.length by omega))).le
   have g1' := g1.1
   have g2' := g2.1
   have g3' := g3.1
   split at g1' <;> omega) hv hss _ (Nat.le_refl _)
  exact fun z w hsk => rv_obj s hs z i hi h ks vs hkv a nn mm dd bb cc (hid h0) (hid hq) (hid hk) (hid (fun q y hy z x hz => ih q y hy z x hz)) (hid hss) (hid he) (hid hn) (by omega) w (hid hsk)
end Go.Proofs.YtkejlejhnnjdkaaGreatDoor
