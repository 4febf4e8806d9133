/-
  The walk of quarrylaw08.MarksKeeps.
-/
import Derived.Test.YtomeaejjdjidlaaDoorApartI
import Derived.Test.YtomeaejjdjidlaaDoorAwake8
import Derived.Test.YtomeaejjdjidlaaDoorMkBlanks
import Derived.Test.YtomeaejjdjidlaaDoorCopyBits
import Derived.Test.YtomeaejjdjidlaaDoorSameWalk
import Derived.Test.YtomeaejjdjidlaaDoorEscB
import Derived.Test.YtomeaejjdjidlaaDoorRoundQuiet
namespace Go.Proofs.YtomeaejjdjidlaaDoor
open Go.RowKit Go.Shelf

theorem ints_at {W : World} {B cap n : Nat} {ao : Option Addr} {L : List Nat} (h : W.ownsRow B 3 1 (.slice ao n cap) L.length (ints L)) : IntsAt W ao L := by
  obtain ⟨ao', cap', e, hI⟩ := ints_row h
  simp only [Value.slice.injEq] at e
  obtain ⟨rfl, -, -⟩ := e
  exact hI
/-- What holds behind the six answers. -/
structure MkK (w : World) (s t : ByteArray) (va vb vc : Value) (n1 n2 n3 gx gy gz px py pz : Nat) (W : World) : Prop where
  ra : W.ownsRow w.heap.size 3 1 va (idxS s).length (ints (idxS s))
  rb : W.ownsRow n1 3 1 vb (idxS t).length (ints (idxS t))
  rc : W.ownsRow n2 3 1 vc (idxS s).length (ints (idxS s))
  rx : At W gx (rowCells (need s.size) (rowOf (blankS s) s.size)) 22
  ry : At W gy (rowCells (need t.size) (rowOf (blankS t) t.size)) 22
  rz : At W gz (rowCells (need s.size) (rowOf (blankS s) s.size)) 22
  vx : At W px #[.int .i64 (s.size : Int), .slice (some ⟨gx, 0, none⟩) (need s.size) (need s.size)] 34
  vy : At W py #[.int .i64 (t.size : Int), .slice (some ⟨gy, 0, none⟩) (need t.size) (need t.size)] 34
  vz : At W pz #[.int .i64 (s.size : Int), .slice (some ⟨gz, 0, none⟩) (need s.size) (need s.size)] 34
  b : Below w.heap.size w W
  la : ∀ g, va.ownBlock = some g → g < n1
  lb : ∀ g, vb.ownBlock = some g → g < n2
  lc : ∀ g, vc.ownBlock = some g → g < n3
  o : w.heap.size ≤ n1 ∧ n1 ≤ n2 ∧ n2 ≤ n3 ∧ n3 ≤ gx ∧ gx < gy ∧ gy < gz ∧ gz < px ∧ px < py ∧ py < pz
section
variable {w W W' : World} {s t : ByteArray} {va vb vc : Value} {n1 n2 n3 gx gy gz px py pz : Nat}
theorem MkK.grown (h : MkK w s t va vb vc n1 n2 n3 gx gy gz px py pz W) {row : Option Nat} (hg : W.grownBy W' row) (hr : ∀ r, row = some r → pz < r) : MkK w s t va vb vc n1 n2 n3 gx gy gz px py pz W' := by
  obtain ⟨o1, o2, o3, o4, o5, o6, o7, o8, o9⟩ := h.o
  have off : ∀ b, b ≤ pz → row ≠ some b := fun b hb e => by have := hr b e; omega
  have offr : ∀ (v : Value), (∀ g, v.ownBlock = some g → g ≤ pz) → v.ownBlock = none ∨ v.ownBlock ≠ row := fun v hv => by
    cases e : v.ownBlock with
    | none => exact .inl rfl
    | some g => exact .inr (fun e2 => off g (hv g e) e2.symm)
  exact ⟨h.ra.kept hg (offr _ fun g e => by have := h.la g e; omega), h.rb.kept hg (offr _ fun g e => by have := h.lb g e; omega), h.rc.kept hg (offr _ fun g e => by have := h.lc g e; omega), h.rx.grow hg (off _ (by omega)), h.ry.grow hg (off _ (by omega)), h.rz.grow hg (off _ (by omega)), h.vx.grow hg (off _ (by omega)), h.vy.grow hg (off _ (by omega)), h.vz.grow hg (off _ (by omega)), h.b.grown hg h.b.size (fun r e => by have := hr r e; omega), h.la, h.lb, h.lc, h.o⟩
theorem MkK.kept (h : MkK w s t va vb vc n1 n2 n3 gx gy gz px py pz W) (hb : Below W.heap.size W W') : MkK w s t va vb vc n1 n2 n3 gx gy gz px py pz W' := h.grown (grown_of_below hb) (fun r e => by cases e)
theorem MkK.lo (h : MkK w s t va vb vc n1 n2 n3 gx gy gz px py pz W) : pz < W.heap.size := h.vz.lt
theorem MkK.put (h : MkK w s t va vb vc n1 n2 n3 gx gy gz px py pz W) {m : Nat} (hm : pz < m) (a b : Value) : MkK w s t va vb vc n1 n2 n3 gx gy gz px py pz ((W.setCell ⟨m, 0, none⟩ a).setCell ⟨m, 1, none⟩ b) :=
  (h.grown (grown_set W m 0 a) (fun r e => by cases e; exact hm)).grown (grown_set _ m 1 b) (fun r e => by cases e; exact hm)
end
/-- What is needed behind the marking: the two copies. -/
structure MkZ (w : World) (s : ByteArray) (lo : Nat) (vw vr : Value) (m : Nat) (W : World) : Prop where
  rw_ : W.ownsRow lo 3 1 vw (idxS s).length (ints (idxS s))
  rr : W.ownsRow lo 22 1 vr (need s.size) (wl (rowOf (blankS s) s.size) (need s.size))
  vm : At W m #[.int .i64 (s.size : Int), vr] 34
  lm : lo ≤ m
  b : Below w.heap.size w W
section
variable {w W W' : World} {s : ByteArray} {lo m : Nat} {vw vr : Value}
theorem MkZ.kept (h : MkZ w s lo vw vr m W) (hb : Below W.heap.size W W') : MkZ w s lo vw vr m W' := ⟨rowz_kept h.rw_ hb, rowz_kept h.rr hb, h.vm.keptAll hb, h.lm, h.b.trans (hb.mono h.b.size)⟩
theorem own_all {lo n z : Nat} {e : TypeId} {v : Value} {L : List Value} (h : W.ownsRow lo e z v n L) (hA : ∀ b cs t, At W b cs t → lo ≤ b → At W' b cs t) : W'.ownsRow lo e z v n L := by
  refine ⟨h.1, ?_⟩
  rcases h.2 with h2 | ⟨g, cap, cur, rfl, hb, hgb, h3⟩
  · exact .inl h2
  · exact .inr ⟨g, cap, cur, rfl, hb, hA g cur _ hgb hb, h3⟩
theorem MkZ.over (h : MkZ w s lo vw vr m W) (hb : Below w.heap.size W W') (hA : ∀ b cs t, At W b cs t → lo ≤ b → At W' b cs t) : MkZ w s lo vw vr m W' := ⟨own_all h.rw_ hA, own_all h.rr hA, hA _ _ _ h.vm h.lm, h.lm, h.b.trans hb⟩
end
theorem rowJ_ints {W : World} {B n : Nat} {v : Value} {L : List Nat} (h : W.ownsRow B 3 1 v L.length (ints L)) (hn : L.length = n) : W.ownsRow B 3 1 v n (celL (n * 1) (fun j => .int .i64 ((L.getD j 0 : Nat) : Int))) := by
  subst hn
  have e : ints L = celL (L.length * 1) (fun j => Value.int .i64 ((L.getD j 0 : Nat) : Int)) := by
    apply List.ext_getElem?
    intro j
    rw [Nat.mul_one]
    by_cases hj : j < L.length
    · rw [celL_get _ hj]
      simp [ints, hj]
    · simp [ints, celL, hj]
  rw [← e]
  exact h
theorem MkK.rows {w W : World} {s t : ByteArray} {va vb vc : Value} {n1 n2 n3 gx gy gz px py pz na nb : Nat} (h : MkK w s t va vb vc n1 n2 n3 gx gy gz px py pz W) (ha : (idxS s).length = na) (hb : (idxS t).length = nb) :
    RowsJ 3 1 W w.heap.size [⟨va, na⟩, ⟨vb, nb⟩, ⟨vc, na⟩] (fun k j => if k = 1 then .int .i64 (((idxS t).getD j 0 : Nat) : Int) else .int .i64 (((idxS s).getD j 0 : Nat) : Int)) := by
  obtain ⟨o1, o2, o3, -⟩ := h.o
  refine ⟨fun k x hk => ?_, fun k l x y g hk hl hx hy => ?_⟩
  · match k, hk with
    | 0, hk => simp at hk; subst hk; exact rowJ_ints h.ra ha
    | 1, hk => simp at hk; subst hk; exact rowJ_ints (row_base h.rb o1) hb
    | 2, hk => simp at hk; subst hk; exact rowJ_ints (row_base h.rc (by omega)) ha
    | k + 3, hk => simp at hk
  · have key : ∀ (k : Nat) (x : RowJ), ([⟨va, na⟩, ⟨vb, nb⟩, ⟨vc, na⟩] : List RowJ)[k]? = some x → ∀ g, x.v.ownBlock = some g → (k = 0 ∧ g < n1) ∨ (k = 1 ∧ n1 ≤ g ∧ g < n2) ∨ (k = 2 ∧ n2 ≤ g) := by
      intro k x hk g hg
      match k, hk with
      | 0, hk => simp at hk; subst hk; exact .inl ⟨rfl, h.la g hg⟩
      | 1, hk => simp at hk; subst hk; exact .inr (.inl ⟨rfl, (h.rb.lt g hg).1, h.lb g hg⟩)
      | 2, hk => simp at hk; subst hk; exact .inr (.inr ⟨rfl, (h.rc.lt g hg).1⟩)
      | k + 3, hk => simp at hk
    have ka := key k x hk g hx
    have la := key l y hl g hy
    omega
theorem rows3X {W : World} {B gx gy gz : Nat} {s t : ByteArray} (o : B ≤ gx ∧ gx < gy ∧ gy < gz) (rx : At W gx (rowCells (need s.size) (rowOf (blankS s) s.size)) 22) (ry : At W gy (rowCells (need t.size) (rowOf (blankS t) t.size)) 22) (rz : At W gz (rowCells (need s.size) (rowOf (blankS s) s.size)) 22) :
    RowsX W B [⟨some gx, need s.size⟩, ⟨some gy, need t.size⟩, ⟨some gz, need s.size⟩] (fun k => if k = 1 then rowOf (blankS t) t.size else rowOf (blankS s) s.size) := by
  obtain ⟨o1, o2, o3⟩ := o
  refine ⟨fun k x hk => ?_, fun k l x y g hk hl hx hy => ?_⟩
  · match k, hk with
    | 0, hk => simp at hk; subst hk; exact ⟨(fun e => by cases e), fun g e => by cases e; exact ⟨by omega, rx⟩⟩
    | 1, hk => simp at hk; subst hk; exact ⟨(fun e => by cases e), fun g e => by cases e; exact ⟨by omega, ry⟩⟩
    | 2, hk => simp at hk; subst hk; exact ⟨(fun e => by cases e), fun g e => by cases e; exact ⟨by omega, rz⟩⟩
    | k + 3, hk => simp at hk
  · have key : ∀ (k : Nat) (x : RowX), ([⟨some gx, need s.size⟩, ⟨some gy, need t.size⟩, ⟨some gz, need s.size⟩] : List RowX)[k]? = some x → (k = 0 ∧ x.g = some gx) ∨ (k = 1 ∧ x.g = some gy) ∨ (k = 2 ∧ x.g = some gz) := by
      intro k x hk
      match k, hk with
      | 0, hk => simp at hk; subst hk; exact .inl ⟨rfl, rfl⟩
      | 1, hk => simp at hk; subst hk; exact .inr (.inl ⟨rfl, rfl⟩)
      | 2, hk => simp at hk; subst hk; exact .inr (.inr ⟨rfl, rfl⟩)
      | k + 3, hk => simp at hk
    have ka := key k x hk
    have la := key l y hl
    rw [hx] at ka
    rw [hy] at la
    simp only [Option.some.injEq] at ka la
    omega
/-- Where the lists lie, no other block is touched by their marking. -/
theorem MkK.offJ {w W : World} {s t : ByteArray} {va vb vc : Value} {n1 n2 n3 gx gy gz px py pz na nb : Nat} (h : MkK w s t va vb vc n1 n2 n3 gx gy gz px py pz W) {b : Nat} (hb : n3 ≤ b) : ∀ (k : Nat) (x : RowJ), ([⟨va, na⟩, ⟨vb, nb⟩, ⟨vc, na⟩] : List RowJ)[k]? = some x → x.v.ownBlock ≠ some b := by
  obtain ⟨o1, o2, o3, -⟩ := h.o
  intro k x hk e
  match k, hk with
  | 0, hk => simp at hk; subst hk; have := h.la b e; omega
  | 1, hk => simp at hk; subst hk; have := h.lb b e; omega
  | 2, hk => simp at hk; subst hk; have := h.lc b e; omega
  | k + 3, hk => simp at hk
theorem offX {gx gy gz ns nt b : Nat} (hb : gx < gy ∧ gy < gz ∧ gz < b) : ∀ (k : Nat) (x : RowX), ([⟨some gx, ns⟩, ⟨some gy, nt⟩, ⟨some gz, ns⟩] : List RowX)[k]? = some x → x.g ≠ some b := by
  intro k x hk e
  match k, hk with
  | 0, hk => simp at hk; subst hk; cases e; omega
  | 1, hk => simp at hk; subst hk; cases e; omega
  | 2, hk => simp at hk; subst hk; cases e; omega
  | k + 3, hk => simp at hk
theorem idxS_len (s : ByteArray) : (idxS s).length ≤ s.size := by
  have := idxTo_len s s.size
  unfold idxS
  omega

/-- A row isn't a block of another type. -/
theorem ne1 {W : World} {lo n p : Nat} {e u : TypeId} {v : Value} {L : List Value} {cs : Array Value} (h : W.ownsRow lo e 1 v n L) (hp : At W p cs u) (he : u ≠ e) : v.ownBlock = none ∨ v.ownBlock ≠ some p := by
  rcases h.2 with ⟨rfl, _⟩ | ⟨g, cap, cur, rfl, hb, hg, _⟩
  · exact .inl rfl
  · refine .inr (fun e2 => ?_)
    have e3 : g = p := Option.some.inj e2
    subst e3
    have h1 : W.heap[g]? = some (.cells cur e) := hg
    have h2 : W.heap[g]? = some (.cells cs u) := hp
    rw [h1] at h2
    simp only [Option.some.injEq, Obj.cells.injEq] at h2
    exact he h2.2.1.symm

set_option maxRecDepth 10000 in
set_option maxHeartbeats 8000000 in
theorem marksKeeps_walk (s : ByteArray) (hs : s.size ≤ 1048576) (t : ByteArray) (ht : t.size ≤ 1048576) (w : World) (hT : Tab w) (hM : TabM w) (h0 : 1 < w.heap.size) :
    Calls Tryd.prog 4 #[.string s, .string t] w fun e w' => e = .returned (.bool true) ∧ Below w.heap.size w w' := by
  have hAw := hid (awake8_calls w hT hM h0)
  have hIx := hid (fun (q : ByteArray) (hq : q.size ≤ 1048576) (W : World) (hb : Below w.heap.size w W) => index8_calls q (by omega) W (hT.below hb (by omega)) (hM.below hb h0) (by have := hb.size; omega))
  have hBl := hid (fun (q : ByteArray) (hq : q.size ≤ 1048576) (W : World) (hb : Below w.heap.size w W) => blanks8_calls q (by omega) W (hT.below hb (by omega)) (hM.below hb h0) (by have := hb.size; omega))
  have hs' := hid hs
  have ht' := hid ht
  have hls : Hid ((idxS s).length ≤ 1048576) := Nat.le_trans (idxS_len s) hs
  have hlt : Hid ((idxS t).length ≤ 1048576) := Nat.le_trans (idxS_len t) ht
  have hns : Hid (need s.size ≤ 1048576) := by show _ ≤ _; unfold need; omega
  have hnt : Hid (need t.size ≤ 1048576) := by show _ ≤ _; unfold need; omega
  clear hs ht hT hM h0
  go_enter Tryd.func4, Tryd.ntmps4
  go_wp2_with fail
  refine Calls.mono hAw.out ?_
  rintro e w1 ⟨rfl, hb1⟩
  have hB1 := hid hb1
  clear hb1 hAw
  go_wp2_with fail
  refine Calls.mono (hIx.out s hs'.out w1 hB1.out) ?_
  rintro e w2 ⟨va, rfl, ra, hb2⟩
  obtain ⟨aa, ca, rfl, -⟩ := ints_row ra
  obtain ⟨na, hna⟩ : ∃ na, Hid ((idxS s).length = na) := ⟨_, rfl⟩
  rw [hna.out]
  have ra2 := hid ra
  have hB2 := hid (hB1.out.trans (hb2.mono hB1.out.size))
  have la := hid (fun g (e : (Value.slice aa (idxS s).length ca).ownBlock = some g) => (ra.lt g e).2)
  clear ra hb2
  go_wp2_with fail
  refine Calls.mono (hIx.out t ht'.out w2 hB2.out) ?_
  rintro e w3 ⟨vb, rfl, rb, hb3⟩
  obtain ⟨ab, cb, rfl, -⟩ := ints_row rb
  obtain ⟨nb, hnb⟩ : ∃ nb, Hid ((idxS t).length = nb) := ⟨_, rfl⟩
  rw [hnb.out]
  have ra3 := hid (rowz_kept ra2.out hb3)
  have rb3 := hid rb
  have hB3 := hid (hB2.out.trans (hb3.mono hB2.out.size))
  have lb := hid (fun g (e : (Value.slice ab (idxS t).length cb).ownBlock = some g) => (rb.lt g e).2)
  have z3 := hid hb3.size
  clear rb hb3 ra2
  go_wp2_with fail
  refine Calls.mono (hIx.out s hs'.out w3 hB3.out) ?_
  rintro e w4 ⟨vc, rfl, rc, hb4⟩
  obtain ⟨ac, cc, rfl, -⟩ := ints_row rc
  rw [hna.out]
  have ra4 := hid (rowz_kept ra3.out hb4)
  have rb4 := hid (rowz_kept rb3.out hb4)
  have rc4 := hid rc
  have hB4 := hid (hB3.out.trans (hb4.mono hB3.out.size))
  have lc := hid (fun g (e : (Value.slice ac (idxS s).length cc).ownBlock = some g) => (rc.lt g e).2)
  have z4 := hid hb4.size
  clear rc hb4 ra3 rb3
  go_wp2_with fail
  refine Calls.mono (hBl.out s hs'.out w4 hB4.out) ?_
  rintro e w5 ⟨gx, hgx, rfl, rx, hb5⟩
  have ra5 := hid (rowz_kept ra4.out hb5)
  have rb5 := hid (rowz_kept rb4.out hb5)
  have rc5 := hid (rowz_kept rc4.out hb5)
  have rx5 := hid rx
  have lx := hid rx.lt
  have hgx' := hid hgx
  have hB5 := hid (hB4.out.trans (hb5.mono hB4.out.size))
  clear rx hb5 ra4 rb4 rc4 hgx
  go_wp2_with fail
  refine Calls.mono (hBl.out t ht'.out w5 hB5.out) ?_
  rintro e w6 ⟨gy, hgy, rfl, ry, hb6⟩
  have ra6 := hid (rowz_kept ra5.out hb6)
  have rb6 := hid (rowz_kept rb5.out hb6)
  have rc6 := hid (rowz_kept rc5.out hb6)
  have rx6 := hid (rx5.out.keptAll hb6)
  have ry6 := hid ry
  have ly := hid ry.lt
  have hgy' := hid hgy
  have hB6 := hid (hB5.out.trans (hb6.mono hB5.out.size))
  clear ry hb6 ra5 rb5 rc5 rx5 hgy
  go_wp2_with fail
  refine Calls.mono (hBl.out s hs'.out w6 hB6.out) ?_
  rintro e w7 ⟨gz, hgz, rfl, rz, hb7⟩
  have ra7 := rowz_kept ra6.out hb7
  have rb7 := rowz_kept rb6.out hb7
  have rc7 := rowz_kept rc6.out hb7
  have rx7 := rx6.out.keptAll hb7
  have ry7 := ry6.out.keptAll hb7
  have lz := rz.lt
  have hB7 := hB6.out.trans (hb7.mono hB6.out.size)
  have z2 := hB2.out.size
  obtain ⟨X, hX⟩ : ∃ X : Array Value, X = #[.int .i64 (s.size : Int), .slice (some ⟨gx, 0, none⟩) (need s.size) (need s.size)] := ⟨_, rfl⟩
  obtain ⟨Y, hY⟩ : ∃ X : Array Value, X = #[.int .i64 (t.size : Int), .slice (some ⟨gy, 0, none⟩) (need t.size) (need t.size)] := ⟨_, rfl⟩
  obtain ⟨Z, hZ⟩ : ∃ X : Array Value, X = #[.int .i64 (s.size : Int), .slice (some ⟨gz, 0, none⟩) (need s.size) (need s.size)] := ⟨_, rfl⟩
  have q7 : Below w7.heap.size w7 (((w7.alloc (.cells X 34)).alloc (.cells Y 34)).alloc (.cells Z 34)) := by repeat (first | with_reducible exact Below.refl _ _ | with_reducible refine Below.setCell ?_ (by first | (simp; done) | (simp; omega)) _ | with_reducible refine below_drewN ?_ _ | with_reducible refine Below.alloc ?_ (by first | (simp; done) | (simp; omega)) _ | with_reducible refine Below.drew ?_)
  have hK8 : Hid (MkK w s t (.slice aa (idxS s).length ca) (.slice ab (idxS t).length cb) (.slice ac (idxS s).length cc) w2.heap.size w3.heap.size w4.heap.size gx gy gz w7.heap.size (w7.heap.size + 1) (w7.heap.size + 1 + 1) (((w7.alloc (.cells X 34)).alloc (.cells Y 34)).alloc (.cells Z 34))) := by
    have hb7s := hb7.size
    refine ⟨row_base (rowz_kept ra7 q7) hB1.out.size, rowz_kept rb7 q7, rowz_kept rc7 q7, rx7.keptAll q7, ry7.keptAll q7, rz.keptAll q7, ?_, ?_, ?_, hB7.trans (q7.mono hB7.size), la.out, lb.out, lc.out, ?_⟩
    · rw [hX]; exact ((At.new w7 _ _).alloc _).alloc _
    · rw [hY]
      have := (At.new (w7.alloc (.cells X 34)) Y 34).alloc (.cells Z 34)
      rw [World.size_alloc, hY] at this
      exact this
    · rw [hZ]
      have := At.new ((w7.alloc (.cells X 34)).alloc (.cells Y 34)) Z 34
      rw [World.size_alloc, World.size_alloc, hZ] at this
      exact this
    · have h1 := z3.out
      have h2 := z4.out
      have h3 := hgx'.out
      have h4 := lx.out
      have h5 := hgy'.out
      have h6 := ly.out
      refine ⟨by omega, by omega, by omega, by omega, by omega, by omega, by omega, by omega, by omega⟩
  rw [hX, hY, hZ, hna.out, hnb.out] at hK8
  clear ra6 rb6 rc6 rx6 ry6 ra7 rb7 rc7 rx7 ry7 rz lx ly lz hgx' hgy' hgz hb7 hB7 z2 z3 z4 la lb lc hB1 hB2 hB3 hB4 hB5 hB6 q7 hX hY hZ X Y Z
  go_wp2_with fail
  obtain ⟨n1, hn1⟩ : ∃ n, w2.heap.size = n := ⟨_, rfl⟩
  obtain ⟨n2, hn2⟩ : ∃ n, w3.heap.size = n := ⟨_, rfl⟩
  obtain ⟨n3, hn3⟩ : ∃ n, w4.heap.size = n := ⟨_, rfl⟩
  obtain ⟨W, hW⟩ : ∃ W, ((w7.alloc (.cells #[.int .i64 (s.size : Int), .slice (some ⟨gx, 0, none⟩) (need s.size) (need s.size)] 34)).alloc (.cells #[.int .i64 (t.size : Int), .slice (some ⟨gy, 0, none⟩) (need t.size) (need t.size)] 34)).alloc (.cells #[.int .i64 (s.size : Int), .slice (some ⟨gz, 0, none⟩) (need s.size) (need s.size)] 34) = W := ⟨_, rfl⟩
  obtain ⟨px, hpx⟩ : ∃ n, w7.heap.size = n := ⟨_, rfl⟩
  obtain ⟨py, hpy⟩ : ∃ n, px + 1 = n := ⟨_, rfl⟩
  obtain ⟨pz, hpz⟩ : ∃ n, py + 1 = n := ⟨_, rfl⟩
  rw [hn1, hn2, hn3, hW, hpx, hpy, hpz] at hK8
  rw [hW, hpx]
  try rw [hpy]
  try rw [hpz]
  clear hW hpx hpy hpz hn1 hn2 hn3
  clear w2 w3 w4 w5 w6 w7
  refine Calls.mono (sameI_calls (idxS s) na hna (by have := hna.out; have := hls.out; omega) aa ac ca cc W (ints_at (by have := hK8.out.ra; exact this)) (ints_at (by have := hK8.out.rc; exact this))) ?_
  rintro e W1 ⟨rfl, hb8⟩
  have hK9 := hid (hK8.out.kept hb8)
  clear hb8 hK8
  obtain ⟨c0x, c1x, -, -⟩ := hK9.out.vx.facts
  obtain ⟨c0z, c1z, -, -⟩ := hK9.out.vz.facts
  go_wp2_with fail
  refine Calls.mono (same6 (by have := hs'.out; omega) _ _ _ _ _ hK9.out.rx.row6 hK9.out.rz.row6) ?_
  rintro e W2 ⟨rfl, hb9⟩
  have hS0 := hid (hK9.out.kept hb9)
  clear hb9 hK9 c0x c1x c0z c1z
  have hcI := hid (fun (V : World) (hV : MkK w s t (.slice aa na ca) (.slice ab nb cb) (.slice ac na cc) n1 n2 n3 gx gy gz px py pz V) => copyI_calls (idxS s) na hna (by have := hna.out; have := hls.out; omega) aa ca V (ints_at (by have := hV.ra; exact this)))
  have hcB := hid (fun (V : World) (hV : MkK w s t (.slice aa na ca) (.slice ab nb cb) (.slice ac na cc) n1 n2 n3 gx gy gz px py pz V) => copyB_calls (s.size : Int) (some ⟨gx, 0, none⟩) (need s.size) (need s.size) (rowOf (blankS s) s.size) (by have := hns.out; omega) V hV.rx.row6)
  go_wp2_with fail
  go_cut [11, 12] from 39 to 42 (fun v p wx => ∃ vw vr m, v = vw ∧ p = .pointer (some ⟨m, 0, none⟩) ∧ MkK w s t (.slice aa na ca) (.slice ab nb cb) (.slice ac na cc) n1 n2 n3 gx gy gz px py pz wx ∧ MkZ w s (pz + 1) vw vr m wx)
  case first => as_aux_lemma =>
    rename_i Jm Km hJm hKm
    refine wp_region_held_only (S := fun W' => MkK w s t (.slice aa na ca) (.slice ab nb cb) (.slice ac na cc) n1 n2 n3 gx gy gz px py pz W') (by kernel_rfl) (hS0.out.kept (Below.refl _ _).drew) (fun hHeld => ?_)
    (refine' wpAnyH_take (i := 0) rfl (by kernel_rfl) (by kernel_rfl) (by kernel_rfl) (fun _ _ _ h => h) (Or.inl ⟨by rfl, ?_⟩) (by assumption) ?_; rotate_left; (· (intro wq hq; (try dsimp only at hq); go_simp; first | done | with_reducible rfl)); simp only [Act.put, List.getElem_toArray, List.getElem_cons_zero, List.setIfInBounds_toArray, List.set_cons_zero, List.set_cons_succ])
    (refine' wpAnyH_take (i := 2) (v := .agg #[.int .i64 (s.size : Int), .slice (some ⟨gx, 0, none⟩) (need s.size) (need s.size)]) rfl (by kernel_rfl) (by kernel_rfl) (by kernel_rfl) (fun _ _ _ h => h) (Or.inl ⟨by rfl, ?_⟩) hHeld ?_; (· (intro wq hq; (try dsimp only at hq); obtain ⟨c0, c1, -, -⟩ := hq.vx.facts; go_simp; first | done | with_reducible rfl)); simp only [Act.put, List.getElem_toArray, List.getElem_cons_zero, List.getElem_cons_succ, List.setIfInBounds_toArray, List.set_cons_zero, List.set_cons_succ])
    obtain ⟨v0, hv0⟩ : ∃ v, World.drew W2 = v := ⟨_, rfl⟩
    rw [hv0] at hHeld ⊢
    clear hv0
    have h0 := hHeld
    clear hHeld
    refine wpAnyH_ready (rs := [1, 4]) (by kernel_rfl) (by simp) ?_
    refine AllReadyH.cons rfl (fun K hK => ?_) ?_
    · rw [if_pos (by rfl)]
      go_simp
      refine (hcI.out _ h0).mono ?_
      rintro e v1 ⟨vw, rfl, rw0, q1⟩
      rw [← hna.out] at rw0
      have rw1 := row_base rw0 (Nat.succ_le_of_lt h0.lo)
      clear rw0
      have h1 := MkK.kept (h0) (q1)
      refine hK.out _ _ h1 (fun _ => ?_)
      clear hK K
      refine wpAnyH_ready (rs := [3, 4]) (by kernel_rfl) (by simp) ?_
      refine AllReadyH.cons rfl (fun K hK => ?_) ?_
      · rw [if_pos (by rfl)]
        go_simp
        refine (hcB.out _ h1).mono ?_
        rintro e v2 ⟨vr, rfl, rr0, q2⟩
        obtain ⟨ro, rcp, rfl⟩ := row_slice rr0
        skip
        have rr1 := row_base rr0 (Nat.succ_le_of_lt h1.lo)
        clear rr0
        have h2 := MkK.kept (h1) (q2)
        replace rw1 := rowz_kept rw1 q2
        refine hK.out _ _ h2 (fun _ => ?_)
        clear hK K
        refine wpAnyH_ready (rs := [4]) (by kernel_rfl) (by simp) ?_
        refine AllReadyH.cons rfl (fun K hK => ?_) ?_
        · go_simp
          obtain ⟨v3, e3⟩ : ∃ v, World.alloc v2 (.cells #[.int .i64 0, .slice none 0 0] 34) = v := ⟨_, rfl⟩
          have q3 : Below v2.heap.size v2 v3 := by rw [← e3]; exact (Below.refl _ _).alloc (Nat.le_refl _) _
          have hp : At v3 v2.heap.size #[.int .i64 0, .slice none 0 0] 34 := by rw [← e3]; exact At.new v2 _ _
          have hlo := hid h2.lo
          rw [e3]
          obtain ⟨p, ep⟩ : ∃ p, v2.heap.size = p := ⟨_, rfl⟩
          rw [ep] at hp hlo ⊢
          clear ep e3
          have h3 := MkK.kept (h2) (q3)
          replace rw1 := rowz_kept rw1 q3
          replace rr1 := rowz_kept rr1 q3
          refine hK.out _ _ h3 (fun _ => ?_)
          clear hK K
          obtain ⟨f0, f1, f2, f3⟩ := At.facts hp
          have fin1 := hid (h3.put hlo.out (.int .i64 (s.size : Int)) (.slice ro (need s.size) rcp))
          have fin2 : Hid (MkZ w s (pz + 1) vw (.slice ro (need s.size) rcp) p _) := ⟨((rw1.kept (grown_set v3 p 0 (.int .i64 (s.size : Int))) (ne1 rw1 hp (by decide))).kept (grown_set _ p 1 (.slice ro (need s.size) rcp)) (ne1 rw1 hp (by decide))), ((rr1.kept (grown_set v3 p 0 (.int .i64 (s.size : Int))) (ne1 rr1 hp (by decide))).kept (grown_set _ p 1 (.slice ro (need s.size) rcp)) (ne1 rr1 hp (by decide))), At.two hp, hlo.out, fin1.out.b⟩
          have hHeld := h3
          (refine' wpAnyH_take (i := 5) rfl (by kernel_rfl) (by kernel_rfl) (by kernel_rfl) (fun _ _ _ h => h) (Or.inl ⟨by rfl, ?_⟩) (by assumption) ?_; rotate_left; (· (intro wq hq; (try dsimp only at hq); go_simp; first | done | with_reducible rfl)); simp only [Act.put, List.getElem_toArray, List.getElem_cons_zero, List.getElem_cons_succ, List.setIfInBounds_toArray, List.set_cons_zero, List.set_cons_succ])
          refine wpAnyH_ready (rs := [6]) (by kernel_rfl) (by simp) ?_
          refine AllReadyH.cons rfl (fun K hK => ?_) ?_
          · go_simp
            refine hK.out _ _ fin1.out (fun _ => ?_)
            clear hK K
            refine wpAnyH_done (by kernel_rfl) ?_ _
            refine hKm _ _ ?_
            refine hJm _ _ ?_
            exact ⟨_, _, _, _, _, _, ⟨vw, _, p, rfl, rfl, fin1.out, fin2.out⟩, rfl⟩
          exact AllReadyH.nil
        exact AllReadyH.nil
      refine AllReadyH.cons rfl (fun K hK => ?_) ?_
      · go_simp
        obtain ⟨v2, e2⟩ : ∃ v, World.alloc v1 (.cells #[.int .i64 0, .slice none 0 0] 34) = v := ⟨_, rfl⟩
        have q2 : Below v1.heap.size v1 v2 := by rw [← e2]; exact (Below.refl _ _).alloc (Nat.le_refl _) _
        have hp : At v2 v1.heap.size #[.int .i64 0, .slice none 0 0] 34 := by rw [← e2]; exact At.new v1 _ _
        have hlo := hid h1.lo
        rw [e2]
        obtain ⟨p, ep⟩ : ∃ p, v1.heap.size = p := ⟨_, rfl⟩
        rw [ep] at hp hlo ⊢
        clear ep e2
        have h2 := MkK.kept (h1) (q2)
        replace rw1 := rowz_kept rw1 q2
        refine hK.out _ _ h2 (fun _ => ?_)
        clear hK K
        refine wpAnyH_ready (rs := [3]) (by kernel_rfl) (by simp) ?_
        refine AllReadyH.cons rfl (fun K hK => ?_) ?_
        · rw [if_pos (by rfl)]
          go_simp
          refine (hcB.out _ h2).mono ?_
          rintro e v3 ⟨vr, rfl, rr0, q3⟩
          obtain ⟨ro, rcp, rfl⟩ := row_slice rr0
          skip
          have rr1 := row_base rr0 (Nat.succ_le_of_lt h2.lo)
          clear rr0
          have h3 := MkK.kept (h2) (q3)
          replace hp := At.keptAll hp q3
          replace rw1 := rowz_kept rw1 q3
          refine hK.out _ _ h3 (fun _ => ?_)
          clear hK K
          obtain ⟨f0, f1, f2, f3⟩ := At.facts hp
          have fin1 := hid (h3.put hlo.out (.int .i64 (s.size : Int)) (.slice ro (need s.size) rcp))
          have fin2 : Hid (MkZ w s (pz + 1) vw (.slice ro (need s.size) rcp) p _) := ⟨((rw1.kept (grown_set v3 p 0 (.int .i64 (s.size : Int))) (ne1 rw1 hp (by decide))).kept (grown_set _ p 1 (.slice ro (need s.size) rcp)) (ne1 rw1 hp (by decide))), ((rr1.kept (grown_set v3 p 0 (.int .i64 (s.size : Int))) (ne1 rr1 hp (by decide))).kept (grown_set _ p 1 (.slice ro (need s.size) rcp)) (ne1 rr1 hp (by decide))), At.two hp, hlo.out, fin1.out.b⟩
          have hHeld := h3
          (refine' wpAnyH_take (i := 5) rfl (by kernel_rfl) (by kernel_rfl) (by kernel_rfl) (fun _ _ _ h => h) (Or.inl ⟨by rfl, ?_⟩) (by assumption) ?_; rotate_left; (· (intro wq hq; (try dsimp only at hq); go_simp; first | done | with_reducible rfl)); simp only [Act.put, List.getElem_toArray, List.getElem_cons_zero, List.getElem_cons_succ, List.setIfInBounds_toArray, List.set_cons_zero, List.set_cons_succ])
          refine wpAnyH_ready (rs := [6]) (by kernel_rfl) (by simp) ?_
          refine AllReadyH.cons rfl (fun K hK => ?_) ?_
          · go_simp
            refine hK.out _ _ fin1.out (fun _ => ?_)
            clear hK K
            refine wpAnyH_done (by kernel_rfl) ?_ _
            refine hKm _ _ ?_
            refine hJm _ _ ?_
            exact ⟨_, _, _, _, _, _, ⟨vw, _, p, rfl, rfl, fin1.out, fin2.out⟩, rfl⟩
          exact AllReadyH.nil
        exact AllReadyH.nil
      exact AllReadyH.nil
    refine AllReadyH.cons rfl (fun K hK => ?_) ?_
    · go_simp
      obtain ⟨v1, e1⟩ : ∃ v, World.alloc v0 (.cells #[.int .i64 0, .slice none 0 0] 34) = v := ⟨_, rfl⟩
      have q1 : Below v0.heap.size v0 v1 := by rw [← e1]; exact (Below.refl _ _).alloc (Nat.le_refl _) _
      have hp : At v1 v0.heap.size #[.int .i64 0, .slice none 0 0] 34 := by rw [← e1]; exact At.new v0 _ _
      have hlo := hid h0.lo
      rw [e1]
      obtain ⟨p, ep⟩ : ∃ p, v0.heap.size = p := ⟨_, rfl⟩
      rw [ep] at hp hlo ⊢
      clear ep e1
      have h1 := MkK.kept (h0) (q1)
      refine hK.out _ _ h1 (fun _ => ?_)
      clear hK K
      refine wpAnyH_ready (rs := [1]) (by kernel_rfl) (by simp) ?_
      refine AllReadyH.cons rfl (fun K hK => ?_) ?_
      · rw [if_pos (by rfl)]
        go_simp
        refine (hcI.out _ h1).mono ?_
        rintro e v2 ⟨vw, rfl, rw0, q2⟩
        rw [← hna.out] at rw0
        have rw1 := row_base rw0 (Nat.succ_le_of_lt h1.lo)
        clear rw0
        have h2 := MkK.kept (h1) (q2)
        replace hp := At.keptAll hp q2
        refine hK.out _ _ h2 (fun _ => ?_)
        clear hK K
        refine wpAnyH_ready (rs := [3]) (by kernel_rfl) (by simp) ?_
        refine AllReadyH.cons rfl (fun K hK => ?_) ?_
        · rw [if_pos (by rfl)]
          go_simp
          refine (hcB.out _ h2).mono ?_
          rintro e v3 ⟨vr, rfl, rr0, q3⟩
          obtain ⟨ro, rcp, rfl⟩ := row_slice rr0
          skip
          have rr1 := row_base rr0 (Nat.succ_le_of_lt h2.lo)
          clear rr0
          have h3 := MkK.kept (h2) (q3)
          replace hp := At.keptAll hp q3
          replace rw1 := rowz_kept rw1 q3
          refine hK.out _ _ h3 (fun _ => ?_)
          clear hK K
          obtain ⟨f0, f1, f2, f3⟩ := At.facts hp
          have fin1 := hid (h3.put hlo.out (.int .i64 (s.size : Int)) (.slice ro (need s.size) rcp))
          have fin2 : Hid (MkZ w s (pz + 1) vw (.slice ro (need s.size) rcp) p _) := ⟨((rw1.kept (grown_set v3 p 0 (.int .i64 (s.size : Int))) (ne1 rw1 hp (by decide))).kept (grown_set _ p 1 (.slice ro (need s.size) rcp)) (ne1 rw1 hp (by decide))), ((rr1.kept (grown_set v3 p 0 (.int .i64 (s.size : Int))) (ne1 rr1 hp (by decide))).kept (grown_set _ p 1 (.slice ro (need s.size) rcp)) (ne1 rr1 hp (by decide))), At.two hp, hlo.out, fin1.out.b⟩
          have hHeld := h3
          (refine' wpAnyH_take (i := 5) rfl (by kernel_rfl) (by kernel_rfl) (by kernel_rfl) (fun _ _ _ h => h) (Or.inl ⟨by rfl, ?_⟩) (by assumption) ?_; rotate_left; (· (intro wq hq; (try dsimp only at hq); go_simp; first | done | with_reducible rfl)); simp only [Act.put, List.getElem_toArray, List.getElem_cons_zero, List.getElem_cons_succ, List.setIfInBounds_toArray, List.set_cons_zero, List.set_cons_succ])
          refine wpAnyH_ready (rs := [6]) (by kernel_rfl) (by simp) ?_
          refine AllReadyH.cons rfl (fun K hK => ?_) ?_
          · go_simp
            refine hK.out _ _ fin1.out (fun _ => ?_)
            clear hK K
            refine wpAnyH_done (by kernel_rfl) ?_ _
            refine hKm _ _ ?_
            refine hJm _ _ ?_
            exact ⟨_, _, _, _, _, _, ⟨vw, _, p, rfl, rfl, fin1.out, fin2.out⟩, rfl⟩
          exact AllReadyH.nil
        exact AllReadyH.nil
      exact AllReadyH.nil
    exact AllReadyH.nil
  case rest => as_aux_lemma =>
    obtain ⟨vw, vr, m, rfl, rfl, hKc, hZc⟩ := hcut
    obtain ⟨aw, cw, rfl, -⟩ := ints_row hZc.rw_
    obtain ⟨ar, cr, rfl⟩ := row_slice hZc.rr
    have hK1 := hid hKc
    have hZ1 := hid hZc
    clear hKc hZc hS0 hcI hcB
    go_wp2_with fail
    have al := (Below.refl _ wc).alloc (Nat.le_refl _) (.cells #[.slice aa na ca, .slice ab nb cb, .slice ac na cc] 23)
    have hAl := At.new wc #[.slice aa na ca, .slice ab nb cb, .slice ac na cc] 23
    obtain ⟨Wa, hWa⟩ : ∃ V, wc.alloc (.cells #[.slice aa na ca, .slice ab nb cb, .slice ac na cc] 23) = V := ⟨_, rfl⟩
    rw [hWa] at al hAl ⊢
    have hKa := hid (hK1.out.kept al)
    have hZa := hid (hZ1.out.kept al)
    have hlo := hid hK1.out.lo
    obtain ⟨ga, hga⟩ : ∃ g, wc.heap.size = g := ⟨_, rfl⟩
    rw [hga] at hAl hlo ⊢
    clear hWa al hga hK1 hZ1
    obtain ⟨o1, o2, o3, o4, o5, o6, o7, o8, o9⟩ := hKa.out.o
    have hlo1 := hlo.out
    refine Calls.mono (apartI_calls Wa ga 3 3 w.heap.size [⟨.slice aa na ca, na⟩, ⟨.slice ab nb cb, nb⟩, ⟨.slice ac na cc, na⟩] _ _ _ rfl (by decide) (fun x hx => by
        have h1 := hna.out
        have h2 := hnb.out
        have h3 := hls.out
        have h4 := hlt.out
        simp at hx
        rcases hx with rfl | rfl | rfl
        · show na ≤ _; omega
        · show nb ≤ _; omega
        · show na ≤ _; omega) hKa.out.b.size hAl (hKa.out.offJ (by omega)) (fun k x hk => by
        match k, hk with
        | 0, hk => simp at hk; subst hk; rfl
        | 1, hk => simp at hk; subst hk; rfl
        | 2, hk => simp at hk; subst hk; rfl
        | k + 3, hk => simp at hk) (hKa.out.rows hna.out hnb.out)) ?_
    rintro e W8 ⟨rfl, hA8⟩
    have rx8 := hid (hA8.2 _ _ _ hKa.out.rx (hKa.out.offJ (by omega)))
    have ry8 := hid (hA8.2 _ _ _ hKa.out.ry (hKa.out.offJ (by omega)))
    have rz8 := hid (hA8.2 _ _ _ hKa.out.rz (hKa.out.offJ (by omega)))
    have vx8 := hA8.2 _ _ _ hKa.out.vx (hKa.out.offJ (by omega))
    have vy8 := hA8.2 _ _ _ hKa.out.vy (hKa.out.offJ (by omega))
    have vz8 := hA8.2 _ _ _ hKa.out.vz (hKa.out.offJ (by omega))
    have hZ8 := hid (hZa.out.over hA8.1 (fun b cs t hb hlb => hA8.2 b cs t hb (hKa.out.offJ (by omega))))
    have hord : Hid (w.heap.size ≤ gx ∧ gx < gy ∧ gy < gz) := ⟨by omega, by omega, by omega⟩
    have hord2 : Hid (gz < pz + 1) := by show _ < _; omega
    obtain ⟨c0x, c1x, -, -⟩ := vx8.facts
    obtain ⟨c0y, c1y, -, -⟩ := vy8.facts
    obtain ⟨c0z, c1z, -, -⟩ := vz8.facts
    clear hA8 hKa hZa hAl vx8 vy8 vz8 o1 o2 o3 o4 o5 o6 o7 o8 o9 hlo1 hlo
    go_wp2_with fail
    have al := (Below.refl _ W8).alloc (Nat.le_refl _) (.cells #[.slice (some ⟨gx, 0, none⟩) (need s.size) (need s.size), .slice (some ⟨gy, 0, none⟩) (need t.size) (need t.size), .slice (some ⟨gz, 0, none⟩) (need s.size) (need s.size)] 32)
    have hAl := At.new W8 #[.slice (some ⟨gx, 0, none⟩) (need s.size) (need s.size), .slice (some ⟨gy, 0, none⟩) (need t.size) (need t.size), .slice (some ⟨gz, 0, none⟩) (need s.size) (need s.size)] 32
    obtain ⟨Wb, hWb⟩ : ∃ V, W8.alloc (.cells #[.slice (some ⟨gx, 0, none⟩) (need s.size) (need s.size), .slice (some ⟨gy, 0, none⟩) (need t.size) (need t.size), .slice (some ⟨gz, 0, none⟩) (need s.size) (need s.size)] 32) = V := ⟨_, rfl⟩
    rw [hWb] at al hAl ⊢
    have hZb := hid (hZ8.out.kept al)
    have hRx := rows3X hord.out (rx8.out.keptAll al) (ry8.out.keptAll al) (rz8.out.keptAll al)
    have hgl := rz8.out.lt
    obtain ⟨gb, hgb⟩ : ∃ g, W8.heap.size = g := ⟨_, rfl⟩
    rw [hgb] at hAl hgl ⊢
    clear hWb al hgb hZ8 rx8 ry8 rz8 c0x c1x c0y c1y c0z c1z
    have hord1 := hord.out
    have hord3 := hord2.out
    refine Calls.mono (apartW_calls Wb gb 3 3 w.heap.size [⟨some gx, need s.size⟩, ⟨some gy, need t.size⟩, ⟨some gz, need s.size⟩] _ _ _ rfl (by decide) (fun x hx => by
        have h3 := hns.out
        have h4 := hnt.out
        simp at hx
        rcases hx with rfl | rfl | rfl
        · show need s.size ≤ _; omega
        · show need t.size ≤ _; omega
        · show need s.size ≤ _; omega) hZb.out.b.size hAl (offX (by omega)) (fun k x hk => by
        match k, hk with
        | 0, hk => simp at hk; subst hk; rfl
        | 1, hk => simp at hk; subst hk; rfl
        | 2, hk => simp at hk; subst hk; rfl
        | k + 3, hk => simp at hk) hRx) ?_
    rintro e W9 ⟨rfl, hA9⟩
    have hZ9 := hid (hZb.out.over hA9.1 (fun b cs t hb hlb => hA9.2 b cs t hb (offX (by omega))))
    clear hA9 hRx hAl hZb hord1 hord3 hgl
    go_wp2_with fail
    rename_i K10 hK10
    refine wp_region_held_drew (S := fun W' => MkZ w s (pz + 1) (.slice aw (idxS s).length cw) (.slice ar (need s.size) cr) m W') (by kernel_rfl) (hZ9.out.kept (Below.refl _ _).drew) (fun hHeld => ?_)
    obtain ⟨v0, hv0⟩ : ∃ v, World.drew W9 = v := ⟨_, rfl⟩
    rw [hv0] at hHeld ⊢
    clear hv0 hZ9
    (refine' wpAnyH_take (i := 0) rfl (by kernel_rfl) (by kernel_rfl) (by kernel_rfl) (fun _ _ _ h => h) (Or.inl ⟨by rfl, ?_⟩) (by assumption) ?_; rotate_left; (· (intro wq hq; (try dsimp only at hq); go_simp; first | done | with_reducible rfl)); simp only [Act.put, List.getElem_toArray, List.getElem_cons_zero, List.setIfInBounds_toArray, List.set_cons_zero, List.set_cons_succ])
    (refine' wpAnyH_take (i := 1) rfl (by kernel_rfl) (by kernel_rfl) (by kernel_rfl) (fun _ _ _ h => h) (Or.inl ⟨by rfl, ?_⟩) (by assumption) ?_; rotate_left; (· (intro wq hq; (try dsimp only at hq); go_simp; first | done | with_reducible rfl)); simp only [Act.put, List.getElem_toArray, List.getElem_cons_zero, List.getElem_cons_succ, List.setIfInBounds_toArray, List.set_cons_zero, List.set_cons_succ])
    (refine' wpAnyH_take (i := 2) rfl (by kernel_rfl) (by kernel_rfl) (by kernel_rfl) (fun _ _ _ h => h) (Or.inl ⟨by rfl, ?_⟩) (by assumption) ?_; rotate_left; (· (intro wq hq; (try dsimp only at hq); go_simp; first | done | with_reducible rfl)); simp only [Act.put, List.getElem_toArray, List.getElem_cons_zero, List.getElem_cons_succ, List.setIfInBounds_toArray, List.set_cons_zero, List.set_cons_succ])
    (refine' wpAnyH_take (i := 3) rfl (by kernel_rfl) (by kernel_rfl) (by kernel_rfl) (fun _ _ _ h => h) (Or.inl ⟨by rfl, ?_⟩) (by assumption) ?_; rotate_left; (· (intro wq hq; (try dsimp only at hq); go_simp; first | done | with_reducible rfl)); simp only [Act.put, List.getElem_toArray, List.getElem_cons_zero, List.getElem_cons_succ, List.setIfInBounds_toArray, List.set_cons_zero, List.set_cons_succ])
    (refine' wpAnyH_take (i := 4) rfl (by kernel_rfl) (by kernel_rfl) (by kernel_rfl) (fun _ _ _ h => h) (Or.inl ⟨by rfl, ?_⟩) (by assumption) ?_; rotate_left; (· (intro wq hq; (try dsimp only at hq); go_simp; first | done | with_reducible rfl)); simp only [Act.put, List.getElem_toArray, List.getElem_cons_zero, List.getElem_cons_succ, List.setIfInBounds_toArray, List.set_cons_zero, List.set_cons_succ])
    (refine' wpAnyH_take (i := 5) rfl (by kernel_rfl) (by kernel_rfl) (by kernel_rfl) (fun _ _ _ h => h) (Or.inl ⟨by rfl, ?_⟩) (by assumption) ?_; rotate_left; (· (intro wq hq; (try dsimp only at hq); go_simp; first | done | with_reducible rfl)); simp only [Act.put, List.getElem_toArray, List.getElem_cons_zero, List.getElem_cons_succ, List.setIfInBounds_toArray, List.set_cons_zero, List.set_cons_succ])
    (refine' wpAnyH_take (i := 7) rfl (by kernel_rfl) (by kernel_rfl) (by kernel_rfl) (fun _ _ _ h => h) (Or.inl ⟨by rfl, ?_⟩) (by assumption) ?_; rotate_left; (· (intro wq hq; (try dsimp only at hq); go_simp; first | done | with_reducible rfl)); simp only [Act.put, List.getElem_toArray, List.getElem_cons_zero, List.getElem_cons_succ, List.setIfInBounds_toArray, List.set_cons_zero, List.set_cons_succ])
    refine wpAnyH_ready (rs := [6]) (by kernel_rfl) (by simp) ?_
    refine AllReadyH.cons rfl (fun K hK => ?_) ?_
    · rw [if_pos (by rfl)]
      go_simp
      refine (hIx.out s hs'.out _ hHeld.b).mono ?_
      rintro e v1 ⟨vI, rfl, rI, hb1⟩
      obtain ⟨aI, cI, rfl, hII⟩ := ints_row rI
      have hH1 := hHeld.kept hb1
      refine hK.out _ _ hH1 (fun _ => ?_)
      clear hK K hHeld rI hb1
      have hHeld := hH1
      refine wpAnyH_ready (rs := [8]) (by kernel_rfl) (by simp) ?_
      refine AllReadyH.cons rfl (fun K hK => ?_) ?_
      · rw [if_pos (by rfl)]
        go_simp
        refine (sameI_calls (idxS s) _ rfl (by have := hls.out; omega) aI aw cI cw v1 hII (ints_at hH1.rw_)).mono ?_
        rintro e v2 ⟨rfl, hb2⟩
        have hH2 := hH1.kept hb2
        refine hK.out _ _ hH2 (fun _ => ?_)
        clear hK K hHeld hH1 hII hb2
        have hHeld := hH2
        (refine' wpAnyH_take (i := 9) rfl (by kernel_rfl) (by kernel_rfl) (by kernel_rfl) (fun _ _ _ h => h) (Or.inl ⟨by rfl, ?_⟩) (by assumption) ?_; rotate_left; (· (intro wq hq; (try dsimp only at hq); go_simp; first | done | with_reducible rfl)); simp only [Act.put, List.getElem_toArray, List.getElem_cons_zero, List.getElem_cons_succ, List.setIfInBounds_toArray, List.set_cons_zero, List.set_cons_succ])
        (refine' wpAnyH_take (i := 10) rfl (by kernel_rfl) (by kernel_rfl) (by kernel_rfl) (fun _ _ _ h => h) (Or.inl ⟨by rfl, ?_⟩) (by assumption) ?_; rotate_left; (· (intro wq hq; (try dsimp only at hq); go_simp; first | done | with_reducible rfl)); simp only [Act.put, List.getElem_toArray, List.getElem_cons_zero, List.getElem_cons_succ, List.setIfInBounds_toArray, List.set_cons_zero, List.set_cons_succ])
        (refine' wpAnyH_take (i := 11) rfl (by kernel_rfl) (by kernel_rfl) (by kernel_rfl) (fun _ _ _ h => h) (Or.inl ⟨by rfl, ?_⟩) (by assumption) ?_; rotate_left; (· (intro wq hq; (try dsimp only at hq); go_simp; first | done | with_reducible rfl)); simp only [Act.put, List.getElem_toArray, List.getElem_cons_zero, List.getElem_cons_succ, List.setIfInBounds_toArray, List.set_cons_zero, List.set_cons_succ])
        (refine' wpAnyH_take (i := 13) (v := .agg #[.int .i64 (s.size : Int), .slice ar (need s.size) cr]) rfl (by kernel_rfl) (by kernel_rfl) (by kernel_rfl) (fun _ _ _ h => h) (Or.inl ⟨by rfl, ?_⟩) hHeld ?_; (· (intro wq hq; (try dsimp only at hq); obtain ⟨c0, c1, -, -⟩ := hq.vm.facts; go_simp; first | done | with_reducible rfl)); simp only [Act.put, List.getElem_toArray, List.getElem_cons_zero, List.getElem_cons_succ, List.setIfInBounds_toArray, List.set_cons_zero, List.set_cons_succ])
        refine wpAnyH_ready (rs := [12]) (by kernel_rfl) (by simp) ?_
        refine AllReadyH.cons rfl (fun K hK => ?_) ?_
        · rw [if_pos (by rfl)]
          go_simp
          refine (hBl.out s hs'.out _ hHeld.b).mono ?_
          rintro e v3 ⟨g3, -, rfl, rg3, hb3⟩
          have hH3 := hH2.kept hb3
          refine hK.out _ _ hH3 (fun _ => ?_)
          clear hK K hHeld hH2 hb3
          have hHeld := hH3
          refine wpAnyH_ready (rs := [14]) (by kernel_rfl) (by simp) ?_
          refine AllReadyH.cons rfl (fun K hK => ?_) ?_
          · rw [if_pos (by rfl)]
            go_simp
            refine (same6 (by have := hs'.out; omega) _ _ _ _ _ rg3.row6 (wds_own hH3.rr)).mono ?_
            rintro e v4 ⟨rfl, hb4⟩
            have hH4 := hH3.kept hb4
            refine hK.out _ _ hH4 (fun _ => ?_)
            clear hK K hHeld hH3 hb4 rg3
            have hHeld := hH4
            (refine' wpAnyH_take (i := 15) rfl (by kernel_rfl) (by kernel_rfl) (by kernel_rfl) (fun _ _ _ h => h) (Or.inl ⟨by rfl, ?_⟩) (by assumption) ?_; rotate_left; (· (intro wq hq; (try dsimp only at hq); go_simp; first | done | with_reducible rfl)); simp only [Act.put, List.getElem_toArray, List.getElem_cons_zero, List.getElem_cons_succ, List.setIfInBounds_toArray, List.set_cons_zero, List.set_cons_succ])
            (refine' wpAnyH_take (i := 16) rfl (by kernel_rfl) (by kernel_rfl) (by kernel_rfl) (fun _ _ _ h => h) (Or.inl ⟨by rfl, ?_⟩) (by assumption) ?_; rotate_left; (· (intro wq hq; (try dsimp only at hq); go_simp; first | done | with_reducible rfl)); simp only [Act.put, List.getElem_toArray, List.getElem_cons_zero, List.getElem_cons_succ, List.setIfInBounds_toArray, List.set_cons_zero, List.set_cons_succ])
            refine wpAnyH_done (by kernel_rfl) ?_ _
            refine hK10 _ _ ?_
            have hBe := hid hH4.b
            clear hHeld hH4 hK10
            go_wp2
            go_ret
            exact ⟨rfl, hBe.out⟩
          exact AllReadyH.nil
        exact AllReadyH.nil
      exact AllReadyH.nil
    exact AllReadyH.nil
end Go.Proofs.YtomeaejjdjidlaaDoor
