/-
 The parser's array, object and value (by gen_tqh.py).
-/
import Derived.Test.YtkejlejhnnjdkaaGreatDoorTqG
namespace Go.Proofs.YtkejlejhnnjdkaaGreatDoor
open Go.RowKit Go.Shelf
/-- An array or object that is being read. -/
structure CoS (b g : Nat) (s : ByteArray) (p : Nat) (w : World) (kd : Int) (pos : Nat) (kv vv : Value) (ks : List ByteArray) (vs : List Vt) (wr : World) : Prop where
 pa : PaI b g s pos wr
 fr : PFr b w wr
 res : At wr p #[.int .i64 0, .bool false, .string ⟨#[]⟩, .string ⟨#[]⟩, .slice none 0 0, .slice none 0 0] 25
 box : At wr (p + 1) #[.int .i64 kd, .bool false, .string ⟨#[]⟩, .string ⟨#[]⟩, kv, vv] 25
 obj : ObjG (p + 2) wr kv vv ks vs
 sz : p + 2 ≤ wr.heap.size
 hw : w.heap.size = p
 lb : b < p
 lg : g < p
section
variable {b g p pos pos' : Nat} {s : ByteArray} {w x x' y : World} {kd : Int} {kv vv kv' vv' : Value} {ks ks' : List ByteArray} {vs vs' : List Vt}
theorem PaI.sameB (h : PaI b g s pos x) (h1 : x'.heap[b]? = x.heap[b]?) (h2 : x'.heap[g]? = x.heap[g]?) : PaI b g s pos x' := ⟨h1.trans h.at_, h2.trans h.tk, h.ne⟩
theorem CoS.call (h : CoS b g s p w kd pos kv vv ks vs x) (hP : PaI b g s pos' x') (hF : PFr b x x') : CoS b g s p w kd pos' kv vv ks vs x' where
 pa := hP
 fr := h.fr.trans hF
 res := hF.at_ h.res (by have := h.lb; omega)
 box := hF.at_ h.box (by have := h.lb; omega)
 obj := h.obj.kept ⟨hF.size, fun c hc hl => hF.block c hl (by have := h.lb; omega)⟩
 sz := Nat.le_trans h.sz hF.size
 hw := h.hw
 lb := h.lb
 lg := h.lg
theorem CoS.kept (h : CoS b g s p w kd pos kv vv ks vs x) (hb : Below x.heap.size x x') : CoS b g s p w kd pos kv vv ks vs x' := h.call (h.pa.kept hb) (PFr.of_below hb)
theorem CoS.grow (h : CoS b g s p w kd pos kv vv ks vs x) {row : Option Nat} (hg : x.grownBy y row) (hr : ∀ r, row = some r → p + 2 ≤ r) (ho : ObjG (p + 2) y kv' vv' ks' vs') (i : Nat) (v : Value) (hv : (#[.int .i64 kd, .bool false, .string ⟨#[]⟩, .string ⟨#[]⟩, kv, vv] : Array Value).setIfInBounds i v = #[.int .i64 kd, .bool false, .string ⟨#[]⟩, .string ⟨#[]⟩, kv', vv']) :
  CoS b g s p w kd pos kv' vv' ks' vs' (y.setCell ⟨p + 1, i, none⟩ v) := by
 have hlow : ∀ c, c < p + 2 → y.heap[c]? = x.heap[c]? := fun c hc => hg.block c (Nat.lt_of_lt_of_le hc h.sz) (fun e => by have := hr c e.symm; omega)
 have hset : ∀ c, c ≠ p + 1 → (y.setCell ⟨p + 1, i, none⟩ v).heap[c]? = y.heap[c]? := fun c hc => Below.heap_setCell y ⟨p + 1, i, none⟩ v c hc
 have hb := h.lb
 have hgl := h.lg
 have hbox : At y (p + 1) #[.int .i64 kd, .bool false, .string ⟨#[]⟩, .string ⟨#[]⟩, kv, vv] 25 := (hlow (p + 1) (by omega)).trans h.box
 have hs1 := hbox.set i v
 refine ⟨h.pa.sameB ((hset b (by omega)).trans (hlow b (by omega))) ((hset g (by omega)).trans (hlow g (by omega))), ?_, (hset p (by omega)).trans ((hlow p (by omega)).trans h.res), ?_, ?_, ?_, h.hw, h.lb, h.lg⟩
 ·refine ⟨hg.os.trans h.fr.os, hg.tape.trans h.fr.tape, hg.output.trans h.fr.output, by have := h.fr.size; have := hg.size; simp; omega, fun c hc hcb => ?_⟩
  have := h.hw
  exact ((hset c (by omega)).trans (hlow c (by omega))).trans (h.fr.block c hc hcb)
 ·rw [← hv]
  exact hs1
 ·exact ho.kept ⟨by simp, fun c hc _ => hset c (by omega)⟩
 ·have := h.sz; have := hg.size; simp; omega
theorem CoS.kid (h : CoS b g s p w kd pos kv vv ks vs x) (hk : KidsG (p + 2) kv.ownBlock y vv' vs') (hg : x.grownBy y vv.ownBlock) (ha : vv'.ownBlock = vv.ownBlock ∨ ∃ g, vv'.ownBlock = some g ∧ x.heap.size ≤ g) : CoS b g s p w kd pos kv vv' ks vs' (y.setCell ⟨p + 1, 5, none⟩ vv') :=
 h.grow hg (fun r hr => (h.obj.2.1.blk hr).1) (h.obj.kid hk hg ha) 5 vv' (by simp)
theorem CoS.key (h : CoS b g s p w kd pos kv vv ks vs x) (hk : KeysG (p + 2) y kv' ks') (hg : x.grownBy y kv.ownBlock) (ha : kv'.ownBlock = kv.ownBlock ∨ ∃ g, kv'.ownBlock = some g ∧ x.heap.size ≤ g) : CoS b g s p w kd pos kv' vv ks' vs (y.setCell ⟨p + 1, 4, none⟩ kv') :=
 h.grow hg (fun r hr => (h.obj.1.blk hr).1) (h.obj.key hk hg ha) 4 kv' (by simp)
theorem CoS.done {ko vo : Option Addr} {n m kc vc : Nat} (h : CoS b g s p w kd pos (.slice ko n kc) (.slice vo m vc) ks vs x) (hwf : (Lit.int .i64 kd).wf = true) (hk : ks.length ≤ capT) (hv : vs.length ≤ capT) :
  n = ks.length ∧ m = vs.length ∧ ValOn (fun c => p + 2 ≤ c) x (.mk kd false ⟨#[]⟩ ⟨#[]⟩ ks vs) (.agg #[.int .i64 kd, .bool false, .string ⟨#[]⟩, .string ⟨#[]⟩, .slice ko n kc, .slice vo m vc]) := by
 obtain ⟨h1, h2, -⟩ := h.obj
 obtain ⟨X, rfl, hr, hx⟩ := h2.row
 obtain ⟨rfl, hkk⟩ := h1.row
 exact ⟨rfl, rfl, .mk kd false _ _ ks vs ko kc vo vc X hwf ⟨by decide, by decide, hk, hv⟩ hkk hr hx⟩
end
theorem CoS.len {b g p pos n vc : Nat} {s : ByteArray} {w x : World} {kd : Int} {kv : Value} {vo : Option Addr} {ks : List ByteArray} {vs : List Vt} (h : CoS b g s p w kd pos kv (.slice vo n vc) ks vs x) : lenP (p + 1) 5 x = n := by
 unfold lenP
 rw [show x.cell? ⟨p + 1, 5, none⟩ = some (.slice vo n vc) from h.box.cell 5]
/-- The place ahead of the blanks behind q parts. -/
def posA (i : Nat) (c : Nat → Nat) : Nat → Nat
 | 0 => i + 1
 | q + 1 => c q
theorem take_snocV {α : Type} {l : List α} {q : Nat} {u : α} (h : l[q]? = some u) : l.take (q + 1) = l.take q ++ [u] := by
 rw [List.take_add_one, h]; rfl
theorem wp_append_rowV {o : Oper} {a : Act} {w w' : World} {K : Act → World → Prop} {Q : Exit → Act → World → Prop} {x y : Operand} {v v' u : Value} {ty : TypeId} (ho : o.op = .call { callee := .builtin .append, args := #[x, y], argTypes := #[ty, ty] }) (hx : a.eval x = v) (hy : a.eval y = u)
  (hr : (Builtin.append_ #[ty, ty] o.type #[v, u]).run Tryz.prog w = .ok v' w') (h : K (a.put o.dst v') w') : o.wp Tryz.prog a w K Q := by
 unfold Oper.wp execOp
 simp only [ho, resolve, invoke, builtin, Sem.run_bind, Sem.run_pure, Result.andThen_ok, List.map_toArray, List.map_cons, List.map_nil, hx, hy, hr]
 exact h
set_option maxRecDepth 10000 in
set_option maxHeartbeats 4000000 in
theorem arrayP_of (b g : Nat) (s : ByteArray) (hs : s.size ≤ 1048576) (i : Nat) (hi : i < s.size) (vs : List Vt) (a bb cc : Nat → Nat) (h0 : Hid (IsSkip s (i + 1) (a 0)))
  (hq : Hid (∀ q, q < vs.length → byteAt s (a q) ≠ 93 ∧ a q < s.size ∧ IsSkip s (if byteAt s (a q) = 44 then a q + 1 else a q) (bb q) ∧ bb q < s.size))
  (hv : Hid (∀ (q : Nat) (u : Vt), vs[q]? = some u → ∀ (z : Nat) (x : World), IsSkip s z (bb q) → Hid (PaI b g s z x) → Calls Tryz.prog 16 #[.pointer (some ⟨b, 0, none⟩)] x fun e w' => ParP b g s (cc q) u x e w'))
  (hss : Hid (∀ q, q < vs.length → IsSkip s (cc q) (a (q + 1)))) (he : Hid (byteAt s (a vs.length) = 93)) (hn : Hid (a vs.length < s.size)) (hlen : vs.length ≤ 1048576) (w : World) (hP : Hid (PaI b g s i w)) :
  Calls Tryz.prog 30 #[.pointer (some ⟨b, 0, none⟩)] w fun e w' => ParP b g s (a vs.length + 1) (.mk 5 false ⟨#[]⟩ ⟨#[]⟩ [] vs) w e w' := by
 obtain ⟨p, hp⟩ : ∃ p, Hid (w.heap.size = p) := ⟨_, rfl⟩
 have s0 : Hid (CoS b g s p w 5 i (.slice none 0 0) (.slice none 0 0) [] [] ((w.alloc (.cells #[.int .i64 0, .bool false, .string ⟨#[]⟩, .string ⟨#[]⟩, .slice none 0 0, .slice none 0 0] 25)).alloc (.cells #[.int .i64 5, .bool false, .string ⟨#[]⟩, .string ⟨#[]⟩, .slice none 0 0, .slice none 0 0] 25))) := by
  have q1 : Below w.heap.size w (w.alloc (.cells #[.int .i64 0, .bool false, .string ⟨#[]⟩, .string ⟨#[]⟩, .slice none 0 0, .slice none 0 0] 25)) := (Below.refl _ w).alloc (Nat.le_refl _) _
  have q2 : Below (w.alloc (.cells #[.int .i64 0, .bool false, .string ⟨#[]⟩, .string ⟨#[]⟩, .slice none 0 0, .slice none 0 0] 25)).heap.size (w.alloc (.cells #[.int .i64 0, .bool false, .string ⟨#[]⟩, .string ⟨#[]⟩, .slice none 0 0, .slice none 0 0] 25)) ((w.alloc (.cells #[.int .i64 0, .bool false, .string ⟨#[]⟩, .string ⟨#[]⟩, .slice none 0 0, .slice none 0 0] 25)).alloc (.cells #[.int .i64 5, .bool false, .string ⟨#[]⟩, .string ⟨#[]⟩, .slice none 0 0, .slice none 0 0] 25)) := (Below.refl _ _).alloc (Nat.le_refl _) _
  have q3 := q1.trans (q2.mono q1.size)
  have A0 := (At.new w #[.int .i64 0, .bool false, .string ⟨#[]⟩, .string ⟨#[]⟩, .slice none 0 0, .slice none 0 0] 25).keptAll q2
  have B0 := At.new (w.alloc (.cells #[.int .i64 0, .bool false, .string ⟨#[]⟩, .string ⟨#[]⟩, .slice none 0 0, .slice none 0 0] 25)) #[.int .i64 5, .bool false, .string ⟨#[]⟩, .string ⟨#[]⟩, .slice none 0 0, .slice none 0 0] 25
  have e1 : (w.alloc (.cells #[.int .i64 0, .bool false, .string ⟨#[]⟩, .string ⟨#[]⟩, .slice none 0 0, .slice none 0 0] 25)).heap.size = p + 1 := by rw [World.size_alloc, hp.out]
  rw [hp.out] at A0
  rw [e1] at B0
  have hlb := hP.out.at_.lt
  have hlg := hP.out.tk.lt
  rw [hp.out] at hlb hlg
  exact ⟨hP.out.kept q3, PFr.of_below q3, A0, B0, ObjG.nil _ _, by rw [World.size_alloc, e1]; exact Nat.le_refl _, hp.out, hlb, hlg⟩
 have hsi : (i : Int) + 1 ≤ 1048576 := by omega
 go_enter Tryz.func30, Tryz.ntmps30
 go_upto_region 2 with fail
 rw [hp.out]
 generalize (w.alloc (.cells #[.int .i64 0, .bool false, .string ⟨#[]⟩, .string ⟨#[]⟩, .slice none 0 0, .slice none 0 0] 25)).alloc (.cells #[.int .i64 5, .bool false, .string ⟨#[]⟩, .string ⟨#[]⟩, .slice none 0 0, .slice none 0 0] 25) = W0 at s0 ⊢
 have c1 : W0.cell? ⟨b, 1, none⟩ = some (.int .i64 (i : Int)) := s0.out.pa.at_.cell 1
 have g1 := s0.out.pa.at_.frozen 1
 have s1 : Hid (CoS b g s p w 5 (posA i cc 0) (.slice none 0 0) (.slice none 0 0) [] [] (W0.setCell ⟨b, 1, none⟩ (.int .i64 ((i : Int) + 1)))) := s0.out.call (s0.out.pa.go ((i : Int) + 1) (i + 1) (by omega)) ((PFr.refl b W0).set 1 _)
 go_upto_region 3 with fail
 clear c1 g1 s0 hP
 generalize W0.setCell ⟨b, 1, none⟩ (.int .i64 ((i : Int) + 1)) = W1 at s1 ⊢
 go_loopw [] (fun wr => ∃ (q cp : Nat) (so : Option Addr), q ≤ vs.length ∧ Hid (CoS b g s p w 5 (posA i cc q) (.slice none 0 0) (.slice so q cp) [] (vs.take q) wr)) (fun wr => vs.length - lenP (p + 1) 5 wr)
 case atStart => exact ⟨0, 0, none, Nat.zero_le _, s1⟩
 case round =>
  obtain ⟨q, cp, so, hql, hS⟩ := hrel
  clear s1
  have hsk : IsSkip s (posA i cc q) (a q) := by
   cases q with
   | zero => exact h0.out
   | succ q => exact hss.out q (by omega)
  have haq : a q < s.size := by
   by_cases e : q = vs.length
   ·rw [e]; exact hn.out
   ·exact (hq.out q (by omega)).2.1
  have hgo := hid (goesOnP_calls b g s (by omega) (posA i cc q) (a q) (hid hsk) haq 93 wr (hid hS.out.pa))
  by_cases hqe : q = vs.length
  ·have hlen0 := hid hqe
   have e93 := hid (show byteAt s (a q) = 93 by rw [hqe]; exact he.out)
   have htk := hid (show vs.take q = vs by rw [hqe]; exact List.take_length)
   have hpos := hid (show a q + 1 = a vs.length + 1 by rw [hqe])
   clear hqe
   go_wp2_with fail
   refine Calls.mono hgo.out ?_
   rintro e w1 (⟨-, rfl, hP1, hF1⟩ | ⟨hne, -⟩)
   ·have s2 := hid (hS.out.call hP1 hF1)
    rw [htk.out, hpos.out] at s2
    clear hgo hP1 hF1 hS htk hpos e93
    obtain ⟨z1, z2, hV⟩ := s2.out.done (by decide) (by decide) (by unfold capT; omega)
    have hV' := hid hV
    clear z1 z2 hV
    have e0 := s2.out.box.cell 0
    have e1 := s2.out.box.cell 1
    have e2 := s2.out.box.cell 2
    have e3 := s2.out.box.cell 3
    have e4 := s2.out.box.cell 4
    have e5 := s2.out.box.cell 5
    simp only [List.getElem?_toArray, List.getElem?_cons_zero, List.getElem?_cons_succ] at e0 e1 e2 e3 e4 e5
    have d0 := s2.out.res.cell 0
    have d1 := s2.out.res.cell 1
    have d2 := s2.out.res.cell 2
    have d3 := s2.out.res.cell 3
    have d4 := s2.out.res.cell 4
    have d5 := s2.out.res.cell 5
    simp only [List.getElem?_toArray, List.getElem?_cons_zero, List.getElem?_cons_succ] at d0 d1 d2 d3 d4 d5
    have f0 := s2.out.res.frozen 0
    have f1 := s2.out.res.frozen 1
    have f2 := s2.out.res.frozen 2
    have f3 := s2.out.res.frozen 3
    have f4 := s2.out.res.frozen 4
    have f5 := s2.out.res.frozen 5
    go_wp2
    refine ret_val1 (p := 2) rfl rfl (s2.out.res.six) rfl ?_
    have hpw := hp.out
    refine ⟨_, rfl, ?_, s2.out.pa.same same_six (Nat.ne_of_lt s2.out.lb) (Nat.ne_of_lt s2.out.lg), s2.out.fr.six (Nat.le_of_eq hp.out) _ _ _ _ _ _⟩
    refine hV'.out.kept (fun c _ hc => ?_) ⟨same_six.1, fun c hc hl => same_six.2 c ?_ hl⟩
    ·show w.heap.size ≤ c
     have : p + 2 ≤ c := hc
     omega
    ·show c ≠ p
     have : p + 2 ≤ c := hc
     omega
   ·exact absurd e93.out hne
  ·have hlt : q < vs.length := by omega
   obtain ⟨u, hu⟩ : ∃ u, vs[q]? = some u := ⟨_, List.getElem?_eq_getElem hlt⟩
   obtain ⟨n93, -, hsk2, -⟩ := hq.out q hlt
   have hval := hid (fun x h => hv.out q u hu _ x hsk2 h)
   have hts := hid (take_snocV hu)
   have hlt' := hid hlt
   have hwo : ∃ wo, wo = wr := ⟨_, rfl⟩
   clear hqe hsk haq
   go_wp2_with fail
   refine Calls.mono hgo.out ?_
   rintro e w1 (⟨h93, -⟩ | ⟨-, rfl, hP1, hF1⟩)
   ·exact absurd h93 n93
   have s2 := hid (hS.out.call hP1 hF1)
   have hm := hid (hS.out.len)
   clear hgo hP1 hF1 hS hwo n93 hsk2 hu
   go_upto_region 4 with fail
   refine wp_region_held_drew (S := fun _ => True) (by kernel_rfl) trivial (fun hHeld => ?_)
   have s0 := hid (s2.out.kept (Below.refl _ _).drew)
   obtain ⟨x0, ex0⟩ : ∃ x, World.drew w1 = x := ⟨_, rfl⟩
   rw [ex0] at s0 ⊢
   clear ex0 s2
   (refine' wpAnyH_take (i := 0) rfl (by kernel_rfl) (by kernel_rfl) (by kernel_rfl) (fun _ _ _ h => h) (Or.inl ⟨by rfl, ?_⟩) (by assumption) ?_; rotate_left; (· (intro wq hq; (try dsimp only at hq); go_simp; first | done | with_reducible rfl)); simp only [Act.put, List.getElem_toArray, List.getElem_cons_zero, List.setIfInBounds_toArray, List.set_cons_zero, List.set_cons_succ])
   (refine' wpAnyH_take (i := 2) rfl (by kernel_rfl) (by kernel_rfl) (by kernel_rfl) (fun _ _ _ h => h) (Or.inl ⟨by rfl, ?_⟩) (by assumption) ?_; rotate_left; (· (intro wq hq; (try dsimp only at hq); go_simp; first | done | with_reducible rfl)); simp only [Act.put, List.getElem_toArray, List.getElem_cons_zero, List.getElem_cons_succ, List.setIfInBounds_toArray, List.set_cons_zero, List.set_cons_succ])
   refine wpAnyH_ready (rs := [1, 3]) (by kernel_rfl) (by simp) ?_
   refine AllReadyH.cons rfl (fun K hK => ?_) ?_
   ·have t5 : x0.cell? ⟨p + 1, 5, none⟩ = some (.slice so q cp) := s0.out.box.cell 5
    go_simp
    clear t5
    refine hK.out _ _ trivial (fun _ => ?_)
    clear hK K
    refine wpAnyH_ready (rs := [3]) (by kernel_rfl) (by simp) ?_
    refine AllReadyH.cons rfl (fun K hK => ?_) ?_
    ·rw [if_pos (by rfl)]
     go_simp
     refine Calls.mono (hval.out _ (hid s0.out.pa)) ?_
     rintro e x1 ⟨xv, rfl, hV, hP1, hF1⟩
     obtain ⟨ko, kc, vo, vc, rfl⟩ := hV.six
     have hz0 := s0.out.sz
     have V1 := hid (hV.mono (S' := fun c => p + 2 ≤ c ∧ (Value.slice so q cp).ownBlock ≠ some c ∧ (Value.slice none 0 0).ownBlock ≠ some c) (fun c _ hc => ⟨Nat.le_trans hz0 hc, fun e => absurd (s0.out.obj.2.1.blk e).2 (Nat.not_lt.2 hc), fun e => absurd (s0.out.obj.1.blk e).2 (Nat.not_lt.2 hc)⟩))
     have s1 := hid (s0.out.call hP1 hF1)
     clear hV hP1 hF1 hz0 s0
     refine hK.out _ _ trivial (fun _ => ?_)
     clear hK K
     refine wpAnyH_ready (rs := [4]) (by kernel_rfl) (by simp) ?_
     refine AllReadyH.cons rfl (fun K hK => ?_) ?_
     ·go_simp
      obtain ⟨x2, ex⟩ : ∃ x, World.alloc x1 (.cells #[.int .i64 u.kind, .bool u.b, .string u.raw, .string u.text, .slice ko u.keys.length kc, .slice vo u.kids.length vc] 25) = x := ⟨_, rfl⟩
      have qz : Below x1.heap.size x1 x2 := by rw [← ex]; exact (Below.refl _ _).alloc (Nat.le_refl _) _
      have hpz := hid (show At x2 x1.heap.size #[.int .i64 u.kind, .bool u.b, .string u.raw, .string u.text, .slice ko u.keys.length kc, .slice vo u.kids.length vc] 25 by rw [← ex]; exact At.new x1 _ _)
      rw [ex]
      obtain ⟨pz, ep⟩ : ∃ z, x1.heap.size = z := ⟨_, rfl⟩
      have s2 := hid (s1.out.kept qz)
      have V2 := hid (V1.out.keptB qz)
      rw [ep] at hpz ⊢
      clear ex ep qz
      refine hK.out _ _ trivial (fun _ => ?_)
      clear hK K
      obtain ⟨nv, y, hrun, hk1, hgr, hap⟩ := (s2.out.obj.2.1).app V2.out ⟨pz, 0, none⟩ 1 (fun j y hj => by rw [show (⟨pz, 0, none⟩ : Addr).add j = ⟨pz, j, none⟩ by by_cases h : j = 0 <;> simp [Addr.add, h]]; rw [hpz.out.cell j]; exact hj) (by rw [List.length_take]; omega) s2.out.sz
      obtain ⟨no, nc, rfl⟩ := hk1.shape
      have hrun' := hid hrun
      have fin := hid (s2.out.kid hk1 hgr hap)
      obtain ⟨nn, hnn⟩ : ∃ n, (List.take q vs ++ [u]).length = n := ⟨_, rfl⟩
      rw [hnn] at hrun' fin
      have hbx := (show At y (p + 1) #[.int .i64 5, .bool false, .string ⟨#[]⟩, .string ⟨#[]⟩, .slice none 0 0, .slice so q cp] 25 from (hgr.block (p + 1) (by have := s2.out.sz; omega) (fun e => by have := (s2.out.obj.2.1.blk e.symm).1; omega)).trans s2.out.box)
      have t5 : y.cell? ⟨p + 1, 5, none⟩ = some (.slice so q cp) := hbx.cell 5
      have f5 := hbx.frozen 5
      clear hrun hk1 hgr hap hbx
      refine wpAnyH_ready (rs := [5]) (by kernel_rfl) (by simp) ?_
      refine AllReadyH.cons rfl (fun K hK => ?_) ?_
      ·rw [if_pos (by rfl)]
       refine wp_append_rowV rfl rfl rfl hrun'.out ?_
       refine hK.out _ _ trivial (fun _ => ?_)
       clear hK K
       (refine' wpAnyH_take (i := 6) rfl (by kernel_rfl) (by kernel_rfl) (by kernel_rfl) (fun _ _ _ h => h) (Or.inl ⟨by rfl, ?_⟩) (by assumption) ?_; rotate_left; (· (intro wq hq; (try dsimp only at hq); go_simp; first | done | with_reducible rfl)); simp only [Act.put, List.getElem_toArray, List.getElem_cons_zero, List.getElem_cons_succ, List.setIfInBounds_toArray, List.set_cons_zero, List.set_cons_succ])
       refine wpAnyH_ready (rs := [7]) (by kernel_rfl) (by simp) ?_
       refine AllReadyH.cons rfl (fun K hK => ?_) ?_
       ·go_simp
        refine hK.out _ _ trivial (fun _ => ?_)
        clear hK K
        refine wpAnyH_done (by kernel_rfl) ?_ _
        obtain ⟨z, ez⟩ : ∃ z, World.setCell y ⟨p + 1, 5, none⟩ (.slice no nn nc) = z := ⟨_, rfl⟩
        rw [ez] at fin ⊢
        clear ez hrun' t5 f5 s2 hpz hHeld V2
        have hnn' : nn = q + 1 := by rw [← hnn, List.length_append, List.length_take, List.length_singleton]; omega
        rw [← hts.out] at fin
        subst hnn'
        have hm2 := hid (fin.out.len)
        clear hnn hval
        refine ⟨⟨_, _, _, _, _, _, _, _, _, ⟨q + 1, nc, no, hlt'.out, fin⟩, rfl⟩, ?_⟩
        rw [hm2.out, hm.out]
        have := hlt'.out
        omega
       exact AllReadyH.nil
      exact AllReadyH.nil
     exact AllReadyH.nil
    exact AllReadyH.nil
   refine AllReadyH.cons rfl (fun K hK => ?_) ?_
   ·rw [if_pos (by rfl)]
    go_simp
    refine Calls.mono (hval.out _ (hid s0.out.pa)) ?_
    rintro e x1 ⟨xv, rfl, hV, hP1, hF1⟩
    obtain ⟨ko, kc, vo, vc, rfl⟩ := hV.six
    have hz0 := s0.out.sz
    have V1 := hid (hV.mono (S' := fun c => p + 2 ≤ c ∧ (Value.slice so q cp).ownBlock ≠ some c ∧ (Value.slice none 0 0).ownBlock ≠ some c) (fun c _ hc => ⟨Nat.le_trans hz0 hc, fun e => absurd (s0.out.obj.2.1.blk e).2 (Nat.not_lt.2 hc), fun e => absurd (s0.out.obj.1.blk e).2 (Nat.not_lt.2 hc)⟩))
    have s1 := hid (s0.out.call hP1 hF1)
    clear hV hP1 hF1 hz0 s0
    refine hK.out _ _ trivial (fun _ => ?_)
    clear hK K
    refine wpAnyH_ready (rs := [1, 4]) (by kernel_rfl) (by simp) ?_
    refine AllReadyH.cons rfl (fun K hK => ?_) ?_
    ·have t5 : x1.cell? ⟨p + 1, 5, none⟩ = some (.slice so q cp) := s1.out.box.cell 5
     go_simp
     clear t5
     refine hK.out _ _ trivial (fun _ => ?_)
     clear hK K
     refine wpAnyH_ready (rs := [4]) (by kernel_rfl) (by simp) ?_
     refine AllReadyH.cons rfl (fun K hK => ?_) ?_
     ·go_simp
      obtain ⟨x2, ex⟩ : ∃ x, World.alloc x1 (.cells #[.int .i64 u.kind, .bool u.b, .string u.raw, .string u.text, .slice ko u.keys.length kc, .slice vo u.kids.length vc] 25) = x := ⟨_, rfl⟩
      have qz : Below x1.heap.size x1 x2 := by rw [← ex]; exact (Below.refl _ _).alloc (Nat.le_refl _) _
      have hpz := hid (show At x2 x1.heap.size #[.int .i64 u.kind, .bool u.b, .string u.raw, .string u.text, .slice ko u.keys.length kc, .slice vo u.kids.length vc] 25 by rw [← ex]; exact At.new x1 _ _)
      rw [ex]
      obtain ⟨pz, ep⟩ : ∃ z, x1.heap.size = z := ⟨_, rfl⟩
      have s2 := hid (s1.out.kept qz)
      have V2 := hid (V1.out.keptB qz)
      rw [ep] at hpz ⊢
      clear ex ep qz
      refine hK.out _ _ trivial (fun _ => ?_)
      clear hK K
      obtain ⟨nv, y, hrun, hk1, hgr, hap⟩ := (s2.out.obj.2.1).app V2.out ⟨pz, 0, none⟩ 1 (fun j y hj => by rw [show (⟨pz, 0, none⟩ : Addr).add j = ⟨pz, j, none⟩ by by_cases h : j = 0 <;> simp [Addr.add, h]]; rw [hpz.out.cell j]; exact hj) (by rw [List.length_take]; omega) s2.out.sz
      obtain ⟨no, nc, rfl⟩ := hk1.shape
      have hrun' := hid hrun
      have fin := hid (s2.out.kid hk1 hgr hap)
      obtain ⟨nn, hnn⟩ : ∃ n, (List.take q vs ++ [u]).length = n := ⟨_, rfl⟩
      rw [hnn] at hrun' fin
      have hbx := (show At y (p + 1) #[.int .i64 5, .bool false, .string ⟨#[]⟩, .string ⟨#[]⟩, .slice none 0 0, .slice so q cp] 25 from (hgr.block (p + 1) (by have := s2.out.sz; omega) (fun e => by have := (s2.out.obj.2.1.blk e.symm).1; omega)).trans s2.out.box)
      have t5 : y.cell? ⟨p + 1, 5, none⟩ = some (.slice so q cp) := hbx.cell 5
      have f5 := hbx.frozen 5
      clear hrun hk1 hgr hap hbx
      refine wpAnyH_ready (rs := [5]) (by kernel_rfl) (by simp) ?_
      refine AllReadyH.cons rfl (fun K hK => ?_) ?_
      ·rw [if_pos (by rfl)]
       refine wp_append_rowV rfl rfl rfl hrun'.out ?_
       refine hK.out _ _ trivial (fun _ => ?_)
       clear hK K
       (refine' wpAnyH_take (i := 6) rfl (by kernel_rfl) (by kernel_rfl) (by kernel_rfl) (fun _ _ _ h => h) (Or.inl ⟨by rfl, ?_⟩) (by assumption) ?_; rotate_left; (· (intro wq hq; (try dsimp only at hq); go_simp; first | done | with_reducible rfl)); simp only [Act.put, List.getElem_toArray, List.getElem_cons_zero, List.getElem_cons_succ, List.setIfInBounds_toArray, List.set_cons_zero, List.set_cons_succ])
       refine wpAnyH_ready (rs := [7]) (by kernel_rfl) (by simp) ?_
       refine AllReadyH.cons rfl (fun K hK => ?_) ?_
       ·go_simp
        refine hK.out _ _ trivial (fun _ => ?_)
        clear hK K
        refine wpAnyH_done (by kernel_rfl) ?_ _
        obtain ⟨z, ez⟩ : ∃ z, World.setCell y ⟨p + 1, 5, none⟩ (.slice no nn nc) = z := ⟨_, rfl⟩
        rw [ez] at fin ⊢
        clear ez hrun' t5 f5 s2 hpz hHeld V2
        have hnn' : nn = q + 1 := by rw [← hnn, List.length_append, List.length_take, List.length_singleton]; omega
        rw [← hts.out] at fin
        subst hnn'
        have hm2 := hid (fin.out.len)
        clear hnn hval
        refine ⟨⟨_, _, _, _, _, _, _, _, _, ⟨q + 1, nc, no, hlt'.out, fin⟩, rfl⟩, ?_⟩
        rw [hm2.out, hm.out]
        have := hlt'.out
        omega
       exact AllReadyH.nil
      exact AllReadyH.nil
     exact AllReadyH.nil
    refine AllReadyH.cons rfl (fun K hK => ?_) ?_
    ·go_simp
     obtain ⟨x2, ex⟩ : ∃ x, World.alloc x1 (.cells #[.int .i64 u.kind, .bool u.b, .string u.raw, .string u.text, .slice ko u.keys.length kc, .slice vo u.kids.length vc] 25) = x := ⟨_, rfl⟩
     have qz : Below x1.heap.size x1 x2 := by rw [← ex]; exact (Below.refl _ _).alloc (Nat.le_refl _) _
     have hpz := hid (show At x2 x1.heap.size #[.int .i64 u.kind, .bool u.b, .string u.raw, .string u.text, .slice ko u.keys.length kc, .slice vo u.kids.length vc] 25 by rw [← ex]; exact At.new x1 _ _)
     rw [ex]
     obtain ⟨pz, ep⟩ : ∃ z, x1.heap.size = z := ⟨_, rfl⟩
     have s2 := hid (s1.out.kept qz)
     have V2 := hid (V1.out.keptB qz)
     rw [ep] at hpz ⊢
     clear ex ep qz
     refine hK.out _ _ trivial (fun _ => ?_)
     clear hK K
     refine wpAnyH_ready (rs := [1]) (by kernel_rfl) (by simp) ?_
     refine AllReadyH.cons rfl (fun K hK => ?_) ?_
     ·have t5 : x2.cell? ⟨p + 1, 5, none⟩ = some (.slice so q cp) := s2.out.box.cell 5
      go_simp
      clear t5
      refine hK.out _ _ trivial (fun _ => ?_)
      clear hK K
      obtain ⟨nv, y, hrun, hk1, hgr, hap⟩ := (s2.out.obj.2.1).app V2.out ⟨pz, 0, none⟩ 1 (fun j y hj => by rw [show (⟨pz, 0, none⟩ : Addr).add j = ⟨pz, j, none⟩ by by_cases h : j = 0 <;> simp [Addr.add, h]]; rw [hpz.out.cell j]; exact hj) (by rw [List.length_take]; omega) s2.out.sz
      obtain ⟨no, nc, rfl⟩ := hk1.shape
      have hrun' := hid hrun
      have fin := hid (s2.out.kid hk1 hgr hap)
      obtain ⟨nn, hnn⟩ : ∃ n, (List.take q vs ++ [u]).length = n := ⟨_, rfl⟩
      rw [hnn] at hrun' fin
      have hbx := (show At y (p + 1) #[.int .i64 5, .bool false, .string ⟨#[]⟩, .string ⟨#[]⟩, .slice none 0 0, .slice so q cp] 25 from (hgr.block (p + 1) (by have := s2.out.sz; omega) (fun e => by have := (s2.out.obj.2.1.blk e.symm).1; omega)).trans s2.out.box)
      have t5 : y.cell? ⟨p + 1, 5, none⟩ = some (.slice so q cp) := hbx.cell 5
      have f5 := hbx.frozen 5
      clear hrun hk1 hgr hap hbx
      refine wpAnyH_ready (rs := [5]) (by kernel_rfl) (by simp) ?_
      refine AllReadyH.cons rfl (fun K hK => ?_) ?_
      ·rw [if_pos (by rfl)]
       refine wp_append_rowV rfl rfl rfl hrun'.out ?_
       refine hK.out _ _ trivial (fun _ => ?_)
       clear hK K
       (refine' wpAnyH_take (i := 6) rfl (by kernel_rfl) (by kernel_rfl) (by kernel_rfl) (fun _ _ _ h => h) (Or.inl ⟨by rfl, ?_⟩) (by assumption) ?_; rotate_left; (· (intro wq hq; (try dsimp only at hq); go_simp; first | done | with_reducible rfl)); simp only [Act.put, List.getElem_toArray, List.getElem_cons_zero, List.getElem_cons_succ, List.setIfInBounds_toArray, List.set_cons_zero, List.set_cons_succ])
       refine wpAnyH_ready (rs := [7]) (by kernel_rfl) (by simp) ?_
       refine AllReadyH.cons rfl (fun K hK => ?_) ?_
       ·go_simp
        refine hK.out _ _ trivial (fun _ => ?_)
        clear hK K
        refine wpAnyH_done (by kernel_rfl) ?_ _
        obtain ⟨z, ez⟩ : ∃ z, World.setCell y ⟨p + 1, 5, none⟩ (.slice no nn nc) = z := ⟨_, rfl⟩
        rw [ez] at fin ⊢
        clear ez hrun' t5 f5 s2 hpz hHeld V2
        have hnn' : nn = q + 1 := by rw [← hnn, List.length_append, List.length_take, List.length_singleton]; omega
        rw [← hts.out] at fin
        subst hnn'
        have hm2 := hid (fin.out.len)
        clear hnn hval
        refine ⟨⟨_, _, _, _, _, _, _, _, _, ⟨q + 1, nc, no, hlt'.out, fin⟩, rfl⟩, ?_⟩
        rw [hm2.out, hm.out]
        have := hlt'.out
        omega
       exact AllReadyH.nil
      exact AllReadyH.nil
     exact AllReadyH.nil
    exact AllReadyH.nil
   exact AllReadyH.nil
set_option maxRecDepth 10000 in
set_option maxHeartbeats 4000000 in
theorem objectP_of (b g : Nat) (s : ByteArray) (hs : s.size ≤ 1048576) (i : Nat) (hi : i < s.size) (ks : List ByteArray) (vs : List Vt) (hkv : ks.length = vs.length) (a nn0 mm dd bb cc : Nat → Nat) (h0 : Hid (IsSkip s (i + 1) (a 0)))
  (hq : Hid (∀ q, q < vs.length → byteAt s (a q) ≠ 125 ∧ a q < s.size ∧ IsSkip s (if byteAt s (a q) = 44 then a q + 1 else a q) (nn0 q) ∧ nn0 q < s.size ∧ IsSkip s (mm q) (dd q) ∧ dd q < s.size ∧ IsSkip s (dd q + 1) (bb q) ∧ bb q < s.size))
  (hk : Hid (∀ (q : Nat) (K : ByteArray), ks[q]? = some K → Txt s (nn0 q) (mm q) K))
  (hv : Hid (∀ (q : Nat) (u : Vt), vs[q]? = some u → ∀ (z : Nat) (x : World), IsSkip s z (bb q) → Hid (PaI b g s z x) → Calls Tryz.prog 16 #[.pointer (some ⟨b, 0, none⟩)] x fun e w' => ParP b g s (cc q) u x e w'))
  (hss : Hid (∀ q, q < vs.length → IsSkip s (cc q) (a (q + 1)))) (he : Hid (byteAt s (a vs.length) = 125)) (hn : Hid (a vs.length < s.size)) (hlen : vs.length ≤ 1048576) (w : World) (hP : Hid (PaI b g s i w)) :
  Calls Tryz.prog 31 #[.pointer (some ⟨b, 0, none⟩)] w fun e w' => ParP b g s (a vs.length + 1) (.mk 6 false ⟨#[]⟩ ⟨#[]⟩ ks vs) w e w' := by
 have hkv' := hid hkv
 clear hkv
 obtain ⟨p, hp⟩ : ∃ p, Hid (w.heap.size = p) := ⟨_, rfl⟩
 have s0 : Hid (CoS b g s p w 6 i (.slice none 0 0) (.slice none 0 0) [] [] ((w.alloc (.cells #[.int .i64 0, .bool false, .string ⟨#[]⟩, .string ⟨#[]⟩, .slice none 0 0, .slice none 0 0] 25)).alloc (.cells #[.int .i64 6, .bool false, .string ⟨#[]⟩, .string ⟨#[]⟩, .slice none 0 0, .slice none 0 0] 25))) := by
  have q1 : Below w.heap.size w (w.alloc (.cells #[.int .i64 0, .bool false, .string ⟨#[]⟩, .string ⟨#[]⟩, .slice none 0 0, .slice none 0 0] 25)) := (Below.refl _ w).alloc (Nat.le_refl _) _
  have q2 : Below (w.alloc (.cells #[.int .i64 0, .bool false, .string ⟨#[]⟩, .string ⟨#[]⟩, .slice none 0 0, .slice none 0 0] 25)).heap.size (w.alloc (.cells #[.int .i64 0, .bool false, .string ⟨#[]⟩, .string ⟨#[]⟩, .slice none 0 0, .slice none 0 0] 25)) ((w.alloc (.cells #[.int .i64 0, .bool false, .string ⟨#[]⟩, .string ⟨#[]⟩, .slice none 0 0, .slice none 0 0] 25)).alloc (.cells #[.int .i64 6, .bool false, .string ⟨#[]⟩, .string ⟨#[]⟩, .slice none 0 0, .slice none 0 0] 25)) := (Below.refl _ _).alloc (Nat.le_refl _) _
  have q3 := q1.trans (q2.mono q1.size)
  have A0 := (At.new w #[.int .i64 0, .bool false, .string ⟨#[]⟩, .string ⟨#[]⟩, .slice none 0 0, .slice none 0 0] 25).keptAll q2
  have B0 := At.new (w.alloc (.cells #[.int .i64 0, .bool false, .string ⟨#[]⟩, .string ⟨#[]⟩, .slice none 0 0, .slice none 0 0] 25)) #[.int .i64 6, .bool false, .string ⟨#[]⟩, .string ⟨#[]⟩, .slice none 0 0, .slice none 0 0] 25
  have e1 : (w.alloc (.cells #[.int .i64 0, .bool false, .string ⟨#[]⟩, .string ⟨#[]⟩, .slice none 0 0, .slice none 0 0] 25)).heap.size = p + 1 := by rw [World.size_alloc, hp.out]
  rw [hp.out] at A0
  rw [e1] at B0
  have hlb := hP.out.at_.lt
  have hlg := hP.out.tk.lt
  rw [hp.out] at hlb hlg
  exact ⟨hP.out.kept q3, PFr.of_below q3, A0, B0, ObjG.nil _ _, by rw [World.size_alloc, e1]; exact Nat.le_refl _, hp.out, hlb, hlg⟩
 have hsi : (i : Int) + 1 ≤ 1048576 := by omega
 go_enter Tryz.func31, Tryz.ntmps31
 go_upto_region 2 with fail
 rw [hp.out]
 generalize (w.alloc (.cells #[.int .i64 0, .bool false, .string ⟨#[]⟩, .string ⟨#[]⟩, .slice none 0 0, .slice none 0 0] 25)).alloc (.cells #[.int .i64 6, .bool false, .string ⟨#[]⟩, .string ⟨#[]⟩, .slice none 0 0, .slice none 0 0] 25) = W0 at s0 ⊢
 have c1 : W0.cell? ⟨b, 1, none⟩ = some (.int .i64 (i : Int)) := s0.out.pa.at_.cell 1
 have g1 := s0.out.pa.at_.frozen 1
 have s1 : Hid (CoS b g s p w 6 (posA i cc 0) (.slice none 0 0) (.slice none 0 0) [] [] (W0.setCell ⟨b, 1, none⟩ (.int .i64 ((i : Int) + 1)))) := s0.out.call (s0.out.pa.go ((i : Int) + 1) (i + 1) (by omega)) ((PFr.refl b W0).set 1 _)
 go_upto_region 3 with fail
 clear c1 g1 s0 hP
 generalize W0.setCell ⟨b, 1, none⟩ (.int .i64 ((i : Int) + 1)) = W1 at s1 ⊢
 go_loopw [] (fun wr => ∃ (q ck cp : Nat) (sk so : Option Addr), q ≤ vs.length ∧ Hid (CoS b g s p w 6 (posA i cc q) (.slice sk q ck) (.slice so q cp) (ks.take q) (vs.take q) wr)) (fun wr => vs.length - lenP (p + 1) 5 wr)
 case atStart => exact ⟨0, 0, 0, none, none, Nat.zero_le _, s1⟩
 case round =>
  obtain ⟨q, ck, cp, sk, so, hql, hS⟩ := hrel
  clear s1
  have hsk : IsSkip s (posA i cc q) (a q) := by
   cases q with
   | zero => exact h0.out
   | succ q => exact hss.out q (by omega)
  have haq : a q < s.size := by
   by_cases e : q = vs.length
   ·rw [e]; exact hn.out
   ·exact (hq.out q (by omega)).2.1
  have hgo := hid (goesOnP_calls b g s (by omega) (posA i cc q) (a q) (hid hsk) haq 125 wr (hid hS.out.pa))
  by_cases hqe : q = vs.length
  ·have hlen0 := hid hqe
   have e93 := hid (show byteAt s (a q) = 125 by rw [hqe]; exact he.out)
   have htk := hid (show vs.take q = vs by rw [hqe]; exact List.take_length)
   have htk2 := hid (show ks.take q = ks by rw [hqe, ← hkv'.out]; exact List.take_length)
   have hpos := hid (show a q + 1 = a vs.length + 1 by rw [hqe])
   clear hqe
   go_wp2_with fail
   refine Calls.mono hgo.out ?_
   rintro e w1 (⟨-, rfl, hP1, hF1⟩ | ⟨hne, -⟩)
   ·have s2 := hid (hS.out.call hP1 hF1)
    rw [htk.out, htk2.out, hpos.out] at s2
    clear hgo hP1 hF1 hS htk htk2 hpos e93
    obtain ⟨z1, z2, hV⟩ := s2.out.done (by decide) (by rw [hkv'.out]; unfold capT; omega) (by unfold capT; omega)
    have hV' := hid hV
    clear z1 z2 hV
    have e0 := s2.out.box.cell 0
    have e1 := s2.out.box.cell 1
    have e2 := s2.out.box.cell 2
    have e3 := s2.out.box.cell 3
    have e4 := s2.out.box.cell 4
    have e5 := s2.out.box.cell 5
    simp only [List.getElem?_toArray, List.getElem?_cons_zero, List.getElem?_cons_succ] at e0 e1 e2 e3 e4 e5
    have d0 := s2.out.res.cell 0
    have d1 := s2.out.res.cell 1
    have d2 := s2.out.res.cell 2
    have d3 := s2.out.res.cell 3
    have d4 := s2.out.res.cell 4
    have d5 := s2.out.res.cell 5
    simp only [List.getElem?_toArray, List.getElem?_cons_zero, List.getElem?_cons_succ] at d0 d1 d2 d3 d4 d5
    have f0 := s2.out.res.frozen 0
    have f1 := s2.out.res.frozen 1
    have f2 := s2.out.res.frozen 2
    have f3 := s2.out.res.frozen 3
    have f4 := s2.out.res.frozen 4
    have f5 := s2.out.res.frozen 5
    go_wp2
    refine ret_val1 (p := 2) rfl rfl (s2.out.res.six) rfl ?_
    have hpw := hp.out
    refine ⟨_, rfl, ?_, s2.out.pa.same same_six (Nat.ne_of_lt s2.out.lb) (Nat.ne_of_lt s2.out.lg), s2.out.fr.six (Nat.le_of_eq hp.out) _ _ _ _ _ _⟩
    refine hV'.out.kept (fun c _ hc => ?_) ⟨same_six.1, fun c hc hl => same_six.2 c ?_ hl⟩
    ·show w.heap.size ≤ c
     have : p + 2 ≤ c := hc
     omega
    ·show c ≠ p
     have : p + 2 ≤ c := hc
     omega
   ·exact absurd e93.out hne
  ·have hlt : q < vs.length := by omega
   obtain ⟨u, hu⟩ : ∃ u, vs[q]? = some u := ⟨_, List.getElem?_eq_getElem hlt⟩
   obtain ⟨KN, hKq⟩ : ∃ K, ks[q]? = some K := ⟨_, List.getElem?_eq_getElem (by rw [hkv'.out]; exact hlt)⟩
   obtain ⟨n93, -, hsk2, hnn0, hsk3, hdd, hsk4, -⟩ := hq.out q hlt
   have hval := hid (fun x h => hv.out q u hu _ x hsk4 h)
   have hquo := hid (fun x h => quoted_calls b g s hs (nn0 q) (mm q) KN (hid (hk.out q KN hKq)) x h)
   have hKs : Hid (KN.size ≤ capT) := by have := (hk.out q KN hKq).len; show _ ≤ _; unfold capT; omega
   have hb1 := hid (fun x h => blanksP_calls b g s (by omega) _ (nn0 q) (hid hsk2) hnn0 x h)
   have hb2 := hid (fun x h => blanksP_calls b g s (by omega) (mm q) (dd q) (hid hsk3) hdd x h)
   have hts := hid (take_snocV hu)
   have htk := hid (take_snocV hKq)
   have hlt' := hid hlt
   have hddi : (dd q : Int) + 1 ≤ 1048576 := by omega
   have hm := hid (hS.out.len)
   clear hqe hsk haq
   go_wp2_with fail
   refine Calls.mono hgo.out ?_
   rintro e w1 (⟨h93, -⟩ | ⟨-, rfl, hP1, hF1⟩)
   ·exact absurd h93 n93
   have s2 := hid (hS.out.call hP1 hF1)
   clear hgo hP1 hF1 hS n93 hsk2 hsk3 hsk4 hdd hnn0 hu hKq
   go_wp2_with fail
   refine Calls.mono (hb1.out w1 (hid s2.out.pa)) ?_
   rintro e w2 ⟨rfl, hP1, hF1⟩
   have s3 := hid (s2.out.call hP1 hF1)
   clear hb1 hP1 hF1 s2
   go_upto_region 5 with fail
   go_cut [22] from 16 to 21 (fun _ wx => ∃ (sk2 : Option Addr) (ck2 : Nat), Hid (CoS b g s p w 6 (mm q) (.slice sk2 (q + 1) ck2) (.slice so q cp) (ks.take (q + 1)) (vs.take q) wx))
   case first =>
    rename_i Kr hKr
    refine wp_region_held_drew (S := fun _ => True) (by kernel_rfl) trivial (fun hHeld => ?_)
    have s0 := hid (s3.out.kept (Below.refl _ _).drew)
    obtain ⟨x0, ex0⟩ : ∃ x, World.drew w2 = x := ⟨_, rfl⟩
    rw [ex0] at s0 ⊢
    clear ex0 s3
    (refine' wpAnyH_take (i := 0) rfl (by kernel_rfl) (by kernel_rfl) (by kernel_rfl) (fun _ _ _ h => h) (Or.inl ⟨by rfl, ?_⟩) (by assumption) ?_; rotate_left; (· (intro wq hq; (try dsimp only at hq); go_simp; first | done | with_reducible rfl)); simp only [Act.put, List.getElem_toArray, List.getElem_cons_zero, List.setIfInBounds_toArray, List.set_cons_zero, List.set_cons_succ])
    (refine' wpAnyH_take (i := 2) rfl (by kernel_rfl) (by kernel_rfl) (by kernel_rfl) (fun _ _ _ h => h) (Or.inl ⟨by rfl, ?_⟩) (by assumption) ?_; rotate_left; (· (intro wq hq; (try dsimp only at hq); go_simp; first | done | with_reducible rfl)); simp only [Act.put, List.getElem_toArray, List.getElem_cons_zero, List.getElem_cons_succ, List.setIfInBounds_toArray, List.set_cons_zero, List.set_cons_succ])
    refine wpAnyH_ready (rs := [1, 3]) (by kernel_rfl) (by simp) ?_
    refine AllReadyH.cons rfl (fun K hK => ?_) ?_
    ·have t5 : x0.cell? ⟨p + 1, 4, none⟩ = some (.slice sk q ck) := s0.out.box.cell 4
     go_simp
     clear t5
     refine hK.out _ _ trivial (fun _ => ?_)
     clear hK K
     refine wpAnyH_ready (rs := [3]) (by kernel_rfl) (by simp) ?_
     refine AllReadyH.cons rfl (fun K hK => ?_) ?_
     ·rw [if_pos (by rfl)]
      go_simp
      refine Calls.mono (hquo.out _ (hid s0.out.pa)) ?_
      rintro e x1 ⟨rfl, hP1, hF1⟩
      have s1 := hid (s0.out.call hP1 hF1)
      clear hP1 hF1 s0
      refine hK.out _ _ trivial (fun _ => ?_)
      clear hK K
      refine wpAnyH_ready (rs := [4]) (by kernel_rfl) (by simp) ?_
      refine AllReadyH.cons rfl (fun K hK => ?_) ?_
      ·go_simp
       obtain ⟨x2, ex⟩ : ∃ x, World.alloc x1 (.cells #[.string KN] 9) = x := ⟨_, rfl⟩
       have qz : Below x1.heap.size x1 x2 := by rw [← ex]; exact (Below.refl _ _).alloc (Nat.le_refl _) _
       have hpz := hid (show At x2 x1.heap.size #[.string KN] 9 by rw [← ex]; exact At.new x1 _ _)
       rw [ex]
       obtain ⟨pz, ep⟩ : ∃ z, x1.heap.size = z := ⟨_, rfl⟩
       have s2 := hid (s1.out.kept qz)
       rw [ep] at hpz ⊢
       clear ex ep qz
       refine hK.out _ _ trivial (fun _ => ?_)
       clear hK K
       obtain ⟨nv, y, hrun, hk1, hgr, hap⟩ := (s2.out.obj.1).app hKs.out ⟨pz, 0, none⟩ 1 (by simpa [Addr.add] using hpz.out.cell 0) (by rw [List.length_take]; omega) s2.out.sz
       obtain ⟨no, nc, rfl⟩ := hk1.shape
       have hrun' := hid hrun
       have fin := hid (s2.out.key hk1 hgr hap)
       obtain ⟨nn, hnn⟩ : ∃ n, (List.take q ks ++ [KN]).length = n := ⟨_, rfl⟩
       rw [hnn] at hrun' fin
       have hbx := (show At y (p + 1) #[.int .i64 6, .bool false, .string ⟨#[]⟩, .string ⟨#[]⟩, .slice sk q ck, .slice so q cp] 25 from (hgr.block (p + 1) (by have := s2.out.sz; omega) (fun e => by have := (s2.out.obj.1.blk e.symm).1; omega)).trans s2.out.box)
       have t5 : y.cell? ⟨p + 1, 4, none⟩ = some (.slice sk q ck) := hbx.cell 4
       have f5 := hbx.frozen 4
       clear hrun hk1 hgr hap hbx
       refine wpAnyH_ready (rs := [5]) (by kernel_rfl) (by simp) ?_
       refine AllReadyH.cons rfl (fun K hK => ?_) ?_
       ·rw [if_pos (by rfl)]
        refine wp_append_rowV rfl rfl rfl hrun'.out ?_
        refine hK.out _ _ trivial (fun _ => ?_)
        clear hK K
        (refine' wpAnyH_take (i := 6) rfl (by kernel_rfl) (by kernel_rfl) (by kernel_rfl) (fun _ _ _ h => h) (Or.inl ⟨by rfl, ?_⟩) (by assumption) ?_; rotate_left; (· (intro wq hq; (try dsimp only at hq); go_simp; first | done | with_reducible rfl)); simp only [Act.put, List.getElem_toArray, List.getElem_cons_zero, List.getElem_cons_succ, List.setIfInBounds_toArray, List.set_cons_zero, List.set_cons_succ])
        refine wpAnyH_ready (rs := [7]) (by kernel_rfl) (by simp) ?_
        refine AllReadyH.cons rfl (fun K hK => ?_) ?_
        ·go_simp
         refine hK.out _ _ trivial (fun _ => ?_)
         clear hK K
         refine wpAnyH_done (by kernel_rfl) ?_ _
         refine hKr _ _ ?_
         obtain ⟨z, ez⟩ : ∃ z, World.setCell y ⟨p + 1, 4, none⟩ (.slice no nn nc) = z := ⟨_, rfl⟩
         rw [ez] at fin ⊢
         clear ez hrun' t5 f5 s2 hpz hHeld
         have hnn' : nn = q + 1 := by rw [← hnn, List.length_append, List.length_take, List.length_singleton]; have := hkv'.out; omega
         rw [← htk.out] at fin
         subst hnn'
         clear hnn hquo
         go_wp2
         go_meet
         case rel => exact ⟨no, nc, fin⟩
        exact AllReadyH.nil
       exact AllReadyH.nil
      exact AllReadyH.nil
     exact AllReadyH.nil
    refine AllReadyH.cons rfl (fun K hK => ?_) ?_
    ·rw [if_pos (by rfl)]
     go_simp
     refine Calls.mono (hquo.out _ (hid s0.out.pa)) ?_
     rintro e x1 ⟨rfl, hP1, hF1⟩
     have s1 := hid (s0.out.call hP1 hF1)
     clear hP1 hF1 s0
     refine hK.out _ _ trivial (fun _ => ?_)
     clear hK K
     refine wpAnyH_ready (rs := [1, 4]) (by kernel_rfl) (by simp) ?_
     refine AllReadyH.cons rfl (fun K hK => ?_) ?_
     ·have t5 : x1.cell? ⟨p + 1, 4, none⟩ = some (.slice sk q ck) := s1.out.box.cell 4
      go_simp
      clear t5
      refine hK.out _ _ trivial (fun _ => ?_)
      clear hK K
      refine wpAnyH_ready (rs := [4]) (by kernel_rfl) (by simp) ?_
      refine AllReadyH.cons rfl (fun K hK => ?_) ?_
      ·go_simp
       obtain ⟨x2, ex⟩ : ∃ x, World.alloc x1 (.cells #[.string KN] 9) = x := ⟨_, rfl⟩
       have qz : Below x1.heap.size x1 x2 := by rw [← ex]; exact (Below.refl _ _).alloc (Nat.le_refl _) _
       have hpz := hid (show At x2 x1.heap.size #[.string KN] 9 by rw [← ex]; exact At.new x1 _ _)
       rw [ex]
       obtain ⟨pz, ep⟩ : ∃ z, x1.heap.size = z := ⟨_, rfl⟩
       have s2 := hid (s1.out.kept qz)
       rw [ep] at hpz ⊢
       clear ex ep qz
       refine hK.out _ _ trivial (fun _ => ?_)
       clear hK K
       obtain ⟨nv, y, hrun, hk1, hgr, hap⟩ := (s2.out.obj.1).app hKs.out ⟨pz, 0, none⟩ 1 (by simpa [Addr.add] using hpz.out.cell 0) (by rw [List.length_take]; omega) s2.out.sz
       obtain ⟨no, nc, rfl⟩ := hk1.shape
       have hrun' := hid hrun
       have fin := hid (s2.out.key hk1 hgr hap)
       obtain ⟨nn, hnn⟩ : ∃ n, (List.take q ks ++ [KN]).length = n := ⟨_, rfl⟩
       rw [hnn] at hrun' fin
       have hbx := (show At y (p + 1) #[.int .i64 6, .bool false, .string ⟨#[]⟩, .string ⟨#[]⟩, .slice sk q ck, .slice so q cp] 25 from (hgr.block (p + 1) (by have := s2.out.sz; omega) (fun e => by have := (s2.out.obj.1.blk e.symm).1; omega)).trans s2.out.box)
       have t5 : y.cell? ⟨p + 1, 4, none⟩ = some (.slice sk q ck) := hbx.cell 4
       have f5 := hbx.frozen 4
       clear hrun hk1 hgr hap hbx
       refine wpAnyH_ready (rs := [5]) (by kernel_rfl) (by simp) ?_
       refine AllReadyH.cons rfl (fun K hK => ?_) ?_
       ·rw [if_pos (by rfl)]
        refine wp_append_rowV rfl rfl rfl hrun'.out ?_
        refine hK.out _ _ trivial (fun _ => ?_)
        clear hK K
        (refine' wpAnyH_take (i := 6) rfl (by kernel_rfl) (by kernel_rfl) (by kernel_rfl) (fun _ _ _ h => h) (Or.inl ⟨by rfl, ?_⟩) (by assumption) ?_; rotate_left; (· (intro wq hq; (try dsimp only at hq); go_simp; first | done | with_reducible rfl)); simp only [Act.put, List.getElem_toArray, List.getElem_cons_zero, List.getElem_cons_succ, List.setIfInBounds_toArray, List.set_cons_zero, List.set_cons_succ])
        refine wpAnyH_ready (rs := [7]) (by kernel_rfl) (by simp) ?_
        refine AllReadyH.cons rfl (fun K hK => ?_) ?_
        ·go_simp
         refine hK.out _ _ trivial (fun _ => ?_)
         clear hK K
         refine wpAnyH_done (by kernel_rfl) ?_ _
         refine hKr _ _ ?_
         obtain ⟨z, ez⟩ : ∃ z, World.setCell y ⟨p + 1, 4, none⟩ (.slice no nn nc) = z := ⟨_, rfl⟩
         rw [ez] at fin ⊢
         clear ez hrun' t5 f5 s2 hpz hHeld
         have hnn' : nn = q + 1 := by rw [← hnn, List.length_append, List.length_take, List.length_singleton]; have := hkv'.out; omega
         rw [← htk.out] at fin
         subst hnn'
         clear hnn hquo
         go_wp2
         go_meet
         case rel => exact ⟨no, nc, fin⟩
        exact AllReadyH.nil
       exact AllReadyH.nil
      exact AllReadyH.nil
     refine AllReadyH.cons rfl (fun K hK => ?_) ?_
     ·go_simp
      obtain ⟨x2, ex⟩ : ∃ x, World.alloc x1 (.cells #[.string KN] 9) = x := ⟨_, rfl⟩
      have qz : Below x1.heap.size x1 x2 := by rw [← ex]; exact (Below.refl _ _).alloc (Nat.le_refl _) _
      have hpz := hid (show At x2 x1.heap.size #[.string KN] 9 by rw [← ex]; exact At.new x1 _ _)
      rw [ex]
      obtain ⟨pz, ep⟩ : ∃ z, x1.heap.size = z := ⟨_, rfl⟩
      have s2 := hid (s1.out.kept qz)
      rw [ep] at hpz ⊢
      clear ex ep qz
      refine hK.out _ _ trivial (fun _ => ?_)
      clear hK K
      refine wpAnyH_ready (rs := [1]) (by kernel_rfl) (by simp) ?_
      refine AllReadyH.cons rfl (fun K hK => ?_) ?_
      ·have t5 : x2.cell? ⟨p + 1, 4, none⟩ = some (.slice sk q ck) := s2.out.box.cell 4
       go_simp
       clear t5
       refine hK.out _ _ trivial (fun _ => ?_)
       clear hK K
       obtain ⟨nv, y, hrun, hk1, hgr, hap⟩ := (s2.out.obj.1).app hKs.out ⟨pz, 0, none⟩ 1 (by simpa [Addr.add] using hpz.out.cell 0) (by rw [List.length_take]; omega) s2.out.sz
       obtain ⟨no, nc, rfl⟩ := hk1.shape
       have hrun' := hid hrun
       have fin := hid (s2.out.key hk1 hgr hap)
       obtain ⟨nn, hnn⟩ : ∃ n, (List.take q ks ++ [KN]).length = n := ⟨_, rfl⟩
       rw [hnn] at hrun' fin
       have hbx := (show At y (p + 1) #[.int .i64 6, .bool false, .string ⟨#[]⟩, .string ⟨#[]⟩, .slice sk q ck, .slice so q cp] 25 from (hgr.block (p + 1) (by have := s2.out.sz; omega) (fun e => by have := (s2.out.obj.1.blk e.symm).1; omega)).trans s2.out.box)
       have t5 : y.cell? ⟨p + 1, 4, none⟩ = some (.slice sk q ck) := hbx.cell 4
       have f5 := hbx.frozen 4
       clear hrun hk1 hgr hap hbx
       refine wpAnyH_ready (rs := [5]) (by kernel_rfl) (by simp) ?_
       refine AllReadyH.cons rfl (fun K hK => ?_) ?_
       ·rw [if_pos (by rfl)]
        refine wp_append_rowV rfl rfl rfl hrun'.out ?_
        refine hK.out _ _ trivial (fun _ => ?_)
        clear hK K
        (refine' wpAnyH_take (i := 6) rfl (by kernel_rfl) (by kernel_rfl) (by kernel_rfl) (fun _ _ _ h => h) (Or.inl ⟨by rfl, ?_⟩) (by assumption) ?_; rotate_left; (· (intro wq hq; (try dsimp only at hq); go_simp; first | done | with_reducible rfl)); simp only [Act.put, List.getElem_toArray, List.getElem_cons_zero, List.getElem_cons_succ, List.setIfInBounds_toArray, List.set_cons_zero, List.set_cons_succ])
        refine wpAnyH_ready (rs := [7]) (by kernel_rfl) (by simp) ?_
        refine AllReadyH.cons rfl (fun K hK => ?_) ?_
        ·go_simp
         refine hK.out _ _ trivial (fun _ => ?_)
         clear hK K
         refine wpAnyH_done (by kernel_rfl) ?_ _
         refine hKr _ _ ?_
         obtain ⟨z, ez⟩ : ∃ z, World.setCell y ⟨p + 1, 4, none⟩ (.slice no nn nc) = z := ⟨_, rfl⟩
         rw [ez] at fin ⊢
         clear ez hrun' t5 f5 s2 hpz hHeld
         have hnn' : nn = q + 1 := by rw [← hnn, List.length_append, List.length_take, List.length_singleton]; have := hkv'.out; omega
         rw [← htk.out] at fin
         subst hnn'
         clear hnn hquo
         go_wp2
         go_meet
         case rel => exact ⟨no, nc, fin⟩
        exact AllReadyH.nil
       exact AllReadyH.nil
      exact AllReadyH.nil
     exact AllReadyH.nil
    exact AllReadyH.nil
   case rest =>
    obtain ⟨sk2, ck2, s4⟩ := hcut
    clear s3 hquo hKs
    go_wp2_with fail
    refine Calls.mono (hb2.out _ (hid s4.out.pa)) ?_
    rintro e w3 ⟨rfl, hP1, hF1⟩
    have s5 := hid (s4.out.call hP1 hF1)
    clear hb2 hP1 hF1 s4
    have c1 : w3.cell? ⟨b, 1, none⟩ = some (.int .i64 (dd q : Int)) := s5.out.pa.at_.cell 1
    have g1 := s5.out.pa.at_.frozen 1
    have s6 : Hid (CoS b g s p w 6 (dd q + 1) (.slice sk2 (q + 1) ck2) (.slice so q cp) (ks.take (q + 1)) (vs.take q) (w3.setCell ⟨b, 1, none⟩ (.int .i64 ((dd q : Int) + 1)))) := s5.out.call (s5.out.pa.go ((dd q : Int) + 1) (dd q + 1) (by omega)) ((PFr.refl b w3).set 1 _)
    go_upto_region 8 with fail
    clear c1 g1 s5
    generalize w3.setCell ⟨b, 1, none⟩ (.int .i64 ((dd q : Int) + 1)) = w4 at s6 ⊢
    refine wp_region_held_drew (S := fun _ => True) (by kernel_rfl) trivial (fun hHeld => ?_)
    have s0 := hid (s6.out.kept (Below.refl _ _).drew)
    obtain ⟨x0, ex0⟩ : ∃ x, World.drew w4 = x := ⟨_, rfl⟩
    rw [ex0] at s0 ⊢
    clear ex0 s6
    (refine' wpAnyH_take (i := 0) rfl (by kernel_rfl) (by kernel_rfl) (by kernel_rfl) (fun _ _ _ h => h) (Or.inl ⟨by rfl, ?_⟩) (by assumption) ?_; rotate_left; (· (intro wq hq; (try dsimp only at hq); go_simp; first | done | with_reducible rfl)); simp only [Act.put, List.getElem_toArray, List.getElem_cons_zero, List.setIfInBounds_toArray, List.set_cons_zero, List.set_cons_succ])
    (refine' wpAnyH_take (i := 2) rfl (by kernel_rfl) (by kernel_rfl) (by kernel_rfl) (fun _ _ _ h => h) (Or.inl ⟨by rfl, ?_⟩) (by assumption) ?_; rotate_left; (· (intro wq hq; (try dsimp only at hq); go_simp; first | done | with_reducible rfl)); simp only [Act.put, List.getElem_toArray, List.getElem_cons_zero, List.getElem_cons_succ, List.setIfInBounds_toArray, List.set_cons_zero, List.set_cons_succ])
    refine wpAnyH_ready (rs := [1, 3]) (by kernel_rfl) (by simp) ?_
    refine AllReadyH.cons rfl (fun K hK => ?_) ?_
    ·have t5 : x0.cell? ⟨p + 1, 5, none⟩ = some (.slice so q cp) := s0.out.box.cell 5
     go_simp
     clear t5
     refine hK.out _ _ trivial (fun _ => ?_)
     clear hK K
     refine wpAnyH_ready (rs := [3]) (by kernel_rfl) (by simp) ?_
     refine AllReadyH.cons rfl (fun K hK => ?_) ?_
     ·rw [if_pos (by rfl)]
      go_simp
      refine Calls.mono (hval.out _ (hid s0.out.pa)) ?_
      rintro e x1 ⟨xv, rfl, hV, hP1, hF1⟩
      obtain ⟨ko, kc, vo, vc, rfl⟩ := hV.six
      have hz0 := s0.out.sz
      have V1 := hid (hV.mono (S' := fun c => p + 2 ≤ c ∧ (Value.slice so q cp).ownBlock ≠ some c ∧ (Value.slice sk2 (q + 1) ck2).ownBlock ≠ some c) (fun c _ hc => ⟨Nat.le_trans hz0 hc, fun e => absurd (s0.out.obj.2.1.blk e).2 (Nat.not_lt.2 hc), fun e => absurd (s0.out.obj.1.blk e).2 (Nat.not_lt.2 hc)⟩))
      have s1 := hid (s0.out.call hP1 hF1)
      clear hV hP1 hF1 hz0 s0
      refine hK.out _ _ trivial (fun _ => ?_)
      clear hK K
      refine wpAnyH_ready (rs := [4]) (by kernel_rfl) (by simp) ?_
      refine AllReadyH.cons rfl (fun K hK => ?_) ?_
      ·go_simp
       obtain ⟨x2, ex⟩ : ∃ x, World.alloc x1 (.cells #[.int .i64 u.kind, .bool u.b, .string u.raw, .string u.text, .slice ko u.keys.length kc, .slice vo u.kids.length vc] 25) = x := ⟨_, rfl⟩
       have qz : Below x1.heap.size x1 x2 := by rw [← ex]; exact (Below.refl _ _).alloc (Nat.le_refl _) _
       have hpz := hid (show At x2 x1.heap.size #[.int .i64 u.kind, .bool u.b, .string u.raw, .string u.text, .slice ko u.keys.length kc, .slice vo u.kids.length vc] 25 by rw [← ex]; exact At.new x1 _ _)
       rw [ex]
       obtain ⟨pz, ep⟩ : ∃ z, x1.heap.size = z := ⟨_, rfl⟩
       have s2 := hid (s1.out.kept qz)
       have V2 := hid (V1.out.keptB qz)
       rw [ep] at hpz ⊢
       clear ex ep qz
       refine hK.out _ _ trivial (fun _ => ?_)
       clear hK K
       obtain ⟨nv, y, hrun, hk1, hgr, hap⟩ := (s2.out.obj.2.1).app V2.out ⟨pz, 0, none⟩ 1 (fun j y hj => by rw [show (⟨pz, 0, none⟩ : Addr).add j = ⟨pz, j, none⟩ by by_cases h : j = 0 <;> simp [Addr.add, h]]; rw [hpz.out.cell j]; exact hj) (by rw [List.length_take]; omega) s2.out.sz
       obtain ⟨no, nc, rfl⟩ := hk1.shape
       have hrun' := hid hrun
       have fin := hid (s2.out.kid hk1 hgr hap)
       obtain ⟨nn, hnn⟩ : ∃ n, (List.take q vs ++ [u]).length = n := ⟨_, rfl⟩
       rw [hnn] at hrun' fin
       have hbx := (show At y (p + 1) #[.int .i64 6, .bool false, .string ⟨#[]⟩, .string ⟨#[]⟩, .slice sk2 (q + 1) ck2, .slice so q cp] 25 from (hgr.block (p + 1) (by have := s2.out.sz; omega) (fun e => by have := (s2.out.obj.2.1.blk e.symm).1; omega)).trans s2.out.box)
       have t5 : y.cell? ⟨p + 1, 5, none⟩ = some (.slice so q cp) := hbx.cell 5
       have f5 := hbx.frozen 5
       clear hrun hk1 hgr hap hbx
       refine wpAnyH_ready (rs := [5]) (by kernel_rfl) (by simp) ?_
       refine AllReadyH.cons rfl (fun K hK => ?_) ?_
       ·rw [if_pos (by rfl)]
        refine wp_append_rowV rfl rfl rfl hrun'.out ?_
        refine hK.out _ _ trivial (fun _ => ?_)
        clear hK K
        (refine' wpAnyH_take (i := 6) rfl (by kernel_rfl) (by kernel_rfl) (by kernel_rfl) (fun _ _ _ h => h) (Or.inl ⟨by rfl, ?_⟩) (by assumption) ?_; rotate_left; (· (intro wq hq; (try dsimp only at hq); go_simp; first | done | with_reducible rfl)); simp only [Act.put, List.getElem_toArray, List.getElem_cons_zero, List.getElem_cons_succ, List.setIfInBounds_toArray, List.set_cons_zero, List.set_cons_succ])
        refine wpAnyH_ready (rs := [7]) (by kernel_rfl) (by simp) ?_
        refine AllReadyH.cons rfl (fun K hK => ?_) ?_
        ·go_simp
         refine hK.out _ _ trivial (fun _ => ?_)
         clear hK K
         refine wpAnyH_done (by kernel_rfl) ?_ _
         obtain ⟨z, ez⟩ : ∃ z, World.setCell y ⟨p + 1, 5, none⟩ (.slice no nn nc) = z := ⟨_, rfl⟩
         rw [ez] at fin ⊢
         clear ez hrun' t5 f5 s2 hpz hHeld V2
         have hnn' : nn = q + 1 := by rw [← hnn, List.length_append, List.length_take, List.length_singleton]; omega
         rw [← hts.out] at fin
         subst hnn'
         have hm2 := hid (fin.out.len)
         clear hnn hval
         refine ⟨⟨_, _, _, _, _, _, _, _, _, _, _, _, _, _, _, _, _, _, _, _, _, _, _, _, _, _, _, ⟨q + 1, ck2, nc, sk2, no, hlt'.out, fin⟩, rfl⟩, ?_⟩
         rw [hm2.out, hm.out]
         have := hlt'.out
         omega
        exact AllReadyH.nil
       exact AllReadyH.nil
      exact AllReadyH.nil
     exact AllReadyH.nil
    refine AllReadyH.cons rfl (fun K hK => ?_) ?_
    ·rw [if_pos (by rfl)]
     go_simp
     refine Calls.mono (hval.out _ (hid s0.out.pa)) ?_
     rintro e x1 ⟨xv, rfl, hV, hP1, hF1⟩
     obtain ⟨ko, kc, vo, vc, rfl⟩ := hV.six
     have hz0 := s0.out.sz
     have V1 := hid (hV.mono (S' := fun c => p + 2 ≤ c ∧ (Value.slice so q cp).ownBlock ≠ some c ∧ (Value.slice sk2 (q + 1) ck2).ownBlock ≠ some c) (fun c _ hc => ⟨Nat.le_trans hz0 hc, fun e => absurd (s0.out.obj.2.1.blk e).2 (Nat.not_lt.2 hc), fun e => absurd (s0.out.obj.1.blk e).2 (Nat.not_lt.2 hc)⟩))
     have s1 := hid (s0.out.call hP1 hF1)
     clear hV hP1 hF1 hz0 s0
     refine hK.out _ _ trivial (fun _ => ?_)
     clear hK K
     refine wpAnyH_ready (rs := [1, 4]) (by kernel_rfl) (by simp) ?_
     refine AllReadyH.cons rfl (fun K hK => ?_) ?_
     ·have t5 : x1.cell? ⟨p + 1, 5, none⟩ = some (.slice so q cp) := s1.out.box.cell 5
      go_simp
      clear t5
      refine hK.out _ _ trivial (fun _ => ?_)
      clear hK K
      refine wpAnyH_ready (rs := [4]) (by kernel_rfl) (by simp) ?_
      refine AllReadyH.cons rfl (fun K hK => ?_) ?_
      ·go_simp
       obtain ⟨x2, ex⟩ : ∃ x, World.alloc x1 (.cells #[.int .i64 u.kind, .bool u.b, .string u.raw, .string u.text, .slice ko u.keys.length kc, .slice vo u.kids.length vc] 25) = x := ⟨_, rfl⟩
       have qz : Below x1.heap.size x1 x2 := by rw [← ex]; exact (Below.refl _ _).alloc (Nat.le_refl _) _
       have hpz := hid (show At x2 x1.heap.size #[.int .i64 u.kind, .bool u.b, .string u.raw, .string u.text, .slice ko u.keys.length kc, .slice vo u.kids.length vc] 25 by rw [← ex]; exact At.new x1 _ _)
       rw [ex]
       obtain ⟨pz, ep⟩ : ∃ z, x1.heap.size = z := ⟨_, rfl⟩
       have s2 := hid (s1.out.kept qz)
       have V2 := hid (V1.out.keptB qz)
       rw [ep] at hpz ⊢
       clear ex ep qz
       refine hK.out _ _ trivial (fun _ => ?_)
       clear hK K
       obtain ⟨nv, y, hrun, hk1, hgr, hap⟩ := (s2.out.obj.2.1).app V2.out ⟨pz, 0, none⟩ 1 (fun j y hj => by rw [show (⟨pz, 0, none⟩ : Addr).add j = ⟨pz, j, none⟩ by by_cases h : j = 0 <;> simp [Addr.add, h]]; rw [hpz.out.cell j]; exact hj) (by rw [List.length_take]; omega) s2.out.sz
       obtain ⟨no, nc, rfl⟩ := hk1.shape
       have hrun' := hid hrun
       have fin := hid (s2.out.kid hk1 hgr hap)
       obtain ⟨nn, hnn⟩ : ∃ n, (List.take q vs ++ [u]).length = n := ⟨_, rfl⟩
       rw [hnn] at hrun' fin
       have hbx := (show At y (p + 1) #[.int .i64 6, .bool false, .string ⟨#[]⟩, .string ⟨#[]⟩, .slice sk2 (q + 1) ck2, .slice so q cp] 25 from (hgr.block (p + 1) (by have := s2.out.sz; omega) (fun e => by have := (s2.out.obj.2.1.blk e.symm).1; omega)).trans s2.out.box)
       have t5 : y.cell? ⟨p + 1, 5, none⟩ = some (.slice so q cp) := hbx.cell 5
       have f5 := hbx.frozen 5
       clear hrun hk1 hgr hap hbx
       refine wpAnyH_ready (rs := [5]) (by kernel_rfl) (by simp) ?_
       refine AllReadyH.cons rfl (fun K hK => ?_) ?_
       ·rw [if_pos (by rfl)]
        refine wp_append_rowV rfl rfl rfl hrun'.out ?_
        refine hK.out _ _ trivial (fun _ => ?_)
        clear hK K
        (refine' wpAnyH_take (i := 6) rfl (by kernel_rfl) (by kernel_rfl) (by kernel_rfl) (fun _ _ _ h => h) (Or.inl ⟨by rfl, ?_⟩) (by assumption) ?_; rotate_left; (· (intro wq hq; (try dsimp only at hq); go_simp; first | done | with_reducible rfl)); simp only [Act.put, List.getElem_toArray, List.getElem_cons_zero, List.getElem_cons_succ, List.setIfInBounds_toArray, List.set_cons_zero, List.set_cons_succ])
        refine wpAnyH_ready (rs := [7]) (by kernel_rfl) (by simp) ?_
        refine AllReadyH.cons rfl (fun K hK => ?_) ?_
        ·go_simp
         refine hK.out _ _ trivial (fun _ => ?_)
         clear hK K
         refine wpAnyH_done (by kernel_rfl) ?_ _
         obtain ⟨z, ez⟩ : ∃ z, World.setCell y ⟨p + 1, 5, none⟩ (.slice no nn nc) = z := ⟨_, rfl⟩
         rw [ez] at fin ⊢
         clear ez hrun' t5 f5 s2 hpz hHeld V2
         have hnn' : nn = q + 1 := by rw [← hnn, List.length_append, List.length_take, List.length_singleton]; omega
         rw [← hts.out] at fin
         subst hnn'
         have hm2 := hid (fin.out.len)
         clear hnn hval
         refine ⟨⟨_, _, _, _, _, _, _, _, _, _, _, _, _, _, _, _, _, _, _, _, _, _, _, _, _, _, _, ⟨q + 1, ck2, nc, sk2, no, hlt'.out, fin⟩, rfl⟩, ?_⟩
         rw [hm2.out, hm.out]
         have := hlt'.out
         omega
        exact AllReadyH.nil
       exact AllReadyH.nil
      exact AllReadyH.nil
     refine AllReadyH.cons rfl (fun K hK => ?_) ?_
     ·go_simp
      obtain ⟨x2, ex⟩ : ∃ x, World.alloc x1 (.cells #[.int .i64 u.kind, .bool u.b, .string u.raw, .string u.text, .slice ko u.keys.length kc, .slice vo u.kids.length vc] 25) = x := ⟨_, rfl⟩
      have qz : Below x1.heap.size x1 x2 := by rw [← ex]; exact (Below.refl _ _).alloc (Nat.le_refl _) _
      have hpz := hid (show At x2 x1.heap.size #[.int .i64 u.kind, .bool u.b, .string u.raw, .string u.text, .slice ko u.keys.length kc, .slice vo u.kids.length vc] 25 by rw [← ex]; exact At.new x1 _ _)
      rw [ex]
      obtain ⟨pz, ep⟩ : ∃ z, x1.heap.size = z := ⟨_, rfl⟩
      have s2 := hid (s1.out.kept qz)
      have V2 := hid (V1.out.keptB qz)
      rw [ep] at hpz ⊢
      clear ex ep qz
      refine hK.out _ _ trivial (fun _ => ?_)
      clear hK K
      refine wpAnyH_ready (rs := [1]) (by kernel_rfl) (by simp) ?_
      refine AllReadyH.cons rfl (fun K hK => ?_) ?_
      ·have t5 : x2.cell? ⟨p + 1, 5, none⟩ = some (.slice so q cp) := s2.out.box.cell 5
       go_simp
       clear t5
       refine hK.out _ _ trivial (fun _ => ?_)
       clear hK K
       obtain ⟨nv, y, hrun, hk1, hgr, hap⟩ := (s2.out.obj.2.1).app V2.out ⟨pz, 0, none⟩ 1 (fun j y hj => by rw [show (⟨pz, 0, none⟩ : Addr).add j = ⟨pz, j, none⟩ by by_cases h : j = 0 <;> simp [Addr.add, h]]; rw [hpz.out.cell j]; exact hj) (by rw [List.length_take]; omega) s2.out.sz
       obtain ⟨no, nc, rfl⟩ := hk1.shape
       have hrun' := hid hrun
       have fin := hid (s2.out.kid hk1 hgr hap)
       obtain ⟨nn, hnn⟩ : ∃ n, (List.take q vs ++ [u]).length = n := ⟨_, rfl⟩
       rw [hnn] at hrun' fin
       have hbx := (show At y (p + 1) #[.int .i64 6, .bool false, .string ⟨#[]⟩, .string ⟨#[]⟩, .slice sk2 (q + 1) ck2, .slice so q cp] 25 from (hgr.block (p + 1) (by have := s2.out.sz; omega) (fun e => by have := (s2.out.obj.2.1.blk e.symm).1; omega)).trans s2.out.box)
       have t5 : y.cell? ⟨p + 1, 5, none⟩ = some (.slice so q cp) := hbx.cell 5
       have f5 := hbx.frozen 5
       clear hrun hk1 hgr hap hbx
       refine wpAnyH_ready (rs := [5]) (by kernel_rfl) (by simp) ?_
       refine AllReadyH.cons rfl (fun K hK => ?_) ?_
       ·rw [if_pos (by rfl)]
        refine wp_append_rowV rfl rfl rfl hrun'.out ?_
        refine hK.out _ _ trivial (fun _ => ?_)
        clear hK K
        (refine' wpAnyH_take (i := 6) rfl (by kernel_rfl) (by kernel_rfl) (by kernel_rfl) (fun _ _ _ h => h) (Or.inl ⟨by rfl, ?_⟩) (by assumption) ?_; rotate_left; (· (intro wq hq; (try dsimp only at hq); go_simp; first | done | with_reducible rfl)); simp only [Act.put, List.getElem_toArray, List.getElem_cons_zero, List.getElem_cons_succ, List.setIfInBounds_toArray, List.set_cons_zero, List.set_cons_succ])
        refine wpAnyH_ready (rs := [7]) (by kernel_rfl) (by simp) ?_
        refine AllReadyH.cons rfl (fun K hK => ?_) ?_
        ·go_simp
         refine hK.out _ _ trivial (fun _ => ?_)
         clear hK K
         refine wpAnyH_done (by kernel_rfl) ?_ _
         obtain ⟨z, ez⟩ : ∃ z, World.setCell y ⟨p + 1, 5, none⟩ (.slice no nn nc) = z := ⟨_, rfl⟩
         rw [ez] at fin ⊢
         clear ez hrun' t5 f5 s2 hpz hHeld V2
         have hnn' : nn = q + 1 := by rw [← hnn, List.length_append, List.length_take, List.length_singleton]; omega
         rw [← hts.out] at fin
         subst hnn'
         have hm2 := hid (fin.out.len)
         clear hnn hval
         refine ⟨⟨_, _, _, _, _, _, _, _, _, _, _, _, _, _, _, _, _, _, _, _, _, _, _, _, _, _, _, ⟨q + 1, ck2, nc, sk2, no, hlt'.out, fin⟩, rfl⟩, ?_⟩
         rw [hm2.out, hm.out]
         have := hlt'.out
         omega
        exact AllReadyH.nil
       exact AllReadyH.nil
      exact AllReadyH.nil
     exact AllReadyH.nil
    exact AllReadyH.nil
end Go.Proofs.YtkejlejhnnjdkaaGreatDoor
