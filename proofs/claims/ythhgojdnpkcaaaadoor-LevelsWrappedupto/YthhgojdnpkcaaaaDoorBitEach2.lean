/-
  What slices.Clone and bitmap.Each answer; the sequence, as a caller takes it.
-/
import Derived.Test.YthhgojdnpkcaaaaDoorBitEach
import Derived.Test.YthhgojdnpkcaaaaDoorBitsC
import Derived.Test.YthhgojdnpkcaaaaDoorBitsB
namespace Go.Proofs.YthhgojdnpkcaaaaDoor
open Go.RowKit Go.Shelf

theorem infoCW : (Tryd.prog.info? 22).map (fun i => (i.zero, i.size, i.bytes)) = some (some (.int .u64 0), 1, 8) := by kernel_rfl
theorem wl_len (Y : Nat → Nat) (i : Nat) : (wl Y i).length = i := by simp [wl]

set_option maxRecDepth 10000 in
set_option maxHeartbeats 1000000 in
theorem clone_calls (ao : Option Addr) (k cap : Nat) (X : Nat → Nat) (hk : k ≤ 17592186044416) (hz : ao = none → k = 0 ∧ cap = 0) (w : World) (hW : Wds w ao k X) :
    Calls Tryd.prog 54 #[.slice ao k cap] w fun e w' => ∃ v, e = .returned v ∧ w'.ownsRow w.heap.size 22 1 v k (wl X k) ∧ Below w.heap.size w w' := by
  obtain ⟨i0, hi, hz0, hz1, hz2⟩ := info_parts infoCW
  have hnn : ∀ (w : World), Sem.run Tryd.prog (binOp BinOp.eql 32 (.slice none 0 0) (.slice none 0 0)) w = .ok (.bool true) w := fun _ => by rfl
  have hns : ∀ (a : Addr) (k c : Nat) (w : World), Sem.run Tryd.prog (binOp BinOp.eql 32 (.slice (some a) k c) (.slice none 0 0)) w = .ok (.bool false) w := fun _ _ _ _ => by rfl
  go_enter Tryd.func54, Tryd.ntmps54
  cases ao with
  | none =>
    obtain ⟨rfl, rfl⟩ := hz rfl
    go_wp2
    go_ret
    exact ⟨_, rfl, World.ownsRow_nil _ _ _ _, Below.refl _ _⟩
  | some a =>
    have hcells : Hid (∀ (j : Nat) (u : Value), (wl X k)[j]? = some u → (w.alloc (.cells #[] 22)).cell? (a.add j) = some u) := fun j u hu => by
      have hj : j < k := by have := (List.getElem?_eq_some_iff.1 hu).1; rwa [wl_len] at this
      obtain ⟨_, b, off, he, hc⟩ := hW j hj
      cases he
      have e : u = .int .u64 ((X j : Nat) : Int) := by simp [wl, hj] at hu; exact hu.symm
      rw [e, show (⟨b, off, none⟩ : Addr).add j = ⟨b, off + j, none⟩ by by_cases h : j = 0 <;> simp [Addr.add, h]]
      exact (((Below.refl _ w).alloc (Nat.le_refl _) _).cell (p := ⟨b, off + j, none⟩) (cell_block hc)).trans hc
    have hone : Hid (∀ u ∈ wl X k, u.oneCell' = true) := fun u hu => by
      simp only [wl, List.mem_map] at hu
      obtain ⟨j, _, rfl⟩ := hu
      rfl
    have hown : Hid ((w.alloc (.cells #[] 22)).ownsRow w.heap.size 22 1 (.slice (some ⟨w.heap.size, 0, none⟩) 0 0) 0 []) := ⟨rfl, .inr ⟨w.heap.size, 0, #[], rfl, Nat.le_refl _, At.new w _ _, Nat.le_refl _, Nat.zero_le _, rfl, rfl⟩⟩
    clear hW hz
    go_wp2_with (first
      | (at_builtin; refine wpList_append_own _ rfl _ _ 32 rfl w.heap.size 22 i0 (.int .u64 0) 1 8 Tryd.underlying32 hi hz0 hz1 hz2 rfl (by decide) _ _ _ rfl hown.out a k cap (wl X k) rfl (by rw [wl_len, Nat.mul_one]) hcells.out hone.out (by unfold maxLen; omega) (by omega) (by simp) ?_)
      | go_in)
    intro v' w1 hown1 hgrow _
    have hb' : Below w.heap.size w w1 := ((Below.refl _ w).alloc (Nat.le_refl _) _).grown hgrow (by simp) (fun b e => by cases e; exact Nat.le_refl _)
    have hown1' := (show Hid (w1.ownsRow w.heap.size 22 1 v' k (wl X k)) from (by first | exact hown1 | (have h := hown1; simp at h; exact h)))
    clear hown1 hgrow hown hone hcells
    go_wp2
    go_ret
    exact ⟨_, rfl, hown1'.out, hb'⟩

/-- A sequence that tells the places L: its variable lies in block Bl, its words in block g. -/
def SeqB (W : World) (Bl g : Nat) (L : List Nat) : Prop :=
  ∃ (ao : Option Addr) (k cap : Nat) (cur : Array Value) (t : TypeId) (Y : Nat → Nat), At W Bl #[.slice ao k cap] 32 ∧ At W g cur t ∧ k ≤ 17592186044416 ∧ L = placesB Y (64 * k) ∧
    ∀ j, j < k → Y j < 18446744073709551616 ∧ ao = some ⟨g, 0, none⟩ ∧ cur[j]? = some (.int .u64 ((Y j : Nat) : Int))
theorem SeqB.kept {W W' : World} {Bl g : Nat} {L : List Nat} (h : SeqB W Bl g L) (hb : Below W.heap.size W W') : SeqB W' Bl g L := by
  obtain ⟨ao, k, cap, cur, t, Y, h1, h2, h3⟩ := h
  exact ⟨ao, k, cap, cur, t, Y, h1.keptAll hb, h2.keptAll hb, h3⟩
theorem SeqB.other {W : World} {Bl g : Nat} {L : List Nat} (h : SeqB W Bl g L) {p : Addr} (h1 : Bl ≠ p.block) (h2 : g ≠ p.block) (v : Value) : SeqB (W.setCell p v) Bl g L := by
  obtain ⟨ao, k, cap, cur, t, Y, h3, h4, h5⟩ := h
  exact ⟨ao, k, cap, cur, t, Y, h3.other h1 v, h4.other h2 v, h5⟩
theorem SeqB.own {W W' : World} {Bl g : Nat} {L : List Nat} (h : SeqB W Bl g L) {row : Option Nat} (hg : W.grownBy W' row) (hr : ∀ r, row = some r → ∃ o : Obj, W.heap[r]? = some o ∧ o.isCells = false) : SeqB W' Bl g L := by
  obtain ⟨ao, k, cap, cur, t, Y, h3, h4, h5⟩ := h
  exact ⟨ao, k, cap, cur, t, Y, h3.own hg hr, h4.own hg hr, h5⟩
theorem SeqB.lt {W : World} {Bl g : Nat} {L : List Nat} (h : SeqB W Bl g L) : Bl < W.heap.size ∧ g < W.heap.size := by
  obtain ⟨ao, k, cap, cur, t, Y, h3, h4, h5⟩ := h
  exact ⟨h3.lt, h4.lt⟩
theorem SeqB.len {W : World} {Bl g : Nat} {L : List Nat} (h : SeqB W Bl g L) : L.length ≤ 1125899906842624 := by
  obtain ⟨ao, k, cap, cur, t, Y, h3, h4, h5, rfl, h6⟩ := h
  rw [placesB_len]
  have := cntB_le Y (64 * k)
  omega
/-- The places of a sequence are places of a row. -/
theorem SeqB.small {W : World} {Bl g : Nat} {L : List Nat} (h : SeqB W Bl g L) {p : Nat} (hp : p ∈ L) : p < 1125899906842625 := by
  obtain ⟨ao, k, cap, cur, t, Y, h3, h4, h5, rfl, h6⟩ := h
  have := (placesB_mem hp).1
  omega
theorem seqB_held (n : Nat) (hn : 1 ≤ n) (Bl g n0 B : Nat) (L : List Nat) (h0 : 0 < n0) (w : World) (hn0 : n0 ≤ w.heap.size) (hw0 : 0 < w.heap.size) (hB : B ≤ w.heap.size + 1 + 1) (hT : Tab w) (hs : SeqB w Bl g L) :
    SeqHeld n Tryd.prog 55 #[.pointer (some ⟨Bl, 0, none⟩)] encBm (Held n0 B g) (fun xs => xs = L) (fun pre => pre <+: L) L.length w := by
  obtain ⟨ao, k, cap, cur, t, Y, h1, h2, h3, rfl, h4⟩ := hs
  exact fun l J Jx W hW hJ hJx hY hJ0 hsz => each1B_in (fun _ _ => True) n hn l Bl n0 B g k cap ao cur t Y h3 h0 J Jx W (Nat.le_trans hn0 hW.size) (Nat.le_trans hB hsz) hJ hJx (fun _ _ _ _ _ _ _ => trivial) (fun _ _ _ => ⟨fun _ => trivial, trivial⟩)
    (fun pre p W1 hj hl => by
      obtain ⟨fn, tmps, assign, body, hy, hr⟩ := hY pre p W1 hj hl
      exact ⟨fn, tmps, assign, body, hy, hr.mono (fun e W' h => by
        rcases h with ⟨a, b, c⟩ | ⟨a, b, c⟩
        · exact .inl ⟨a, b, c.safe⟩
        · exact .inr ⟨a, b, c.safe⟩)⟩)
    (hT.below hW hw0) (h1.keptAll hW) h4 (h2.keptAll hW) hJ0
/-- The same, for a caller that has a row of its own. -/
theorem seqB_heldG (Safe : Nat → World → Prop) (n : Nat) (hn : 1 ≤ n) (Bl g n0 B : Nat) (L : List Nat) (h0 : 0 < n0) (w : World) (hn0 : n0 ≤ w.heap.size) (hw0 : 0 < w.heap.size) (hB : B ≤ w.heap.size + 1 + 1) (hSo : OwnFrom w.heap.size Safe) (hT : Tab w) (hs : SeqB w Bl g L) :
    SeqHeldG (fun A => (∀ o, Safe A.heap.size (A.alloc o)) ∧ Safe g A) n Tryd.prog 55 #[.pointer (some ⟨Bl, 0, none⟩)] encBm (HeldS Safe n0 B g) (fun xs => xs = L) (fun pre => pre <+: L) L.length w := by
  obtain ⟨ao, k, cap, cur, t, Y, h1, h2, h3, rfl, h4⟩ := hs
  exact fun l J Jx W hW hJ hJx hSn hY hJ0 hsz => each1B_in Safe n hn l Bl n0 B g k cap ao cur t Y h3 h0 J Jx W (Nat.le_trans hn0 hW.size) (Nat.le_trans hB hsz) hJ hJx (fun s A A' row h hg hr => hSo s A A' row h hg (fun r e => ⟨Nat.le_trans hW.size (hr r e).1, (hr r e).2⟩)) hSn hY
    (hT.below hW hw0) (h1.keptAll hW) h4 (h2.keptAll hW) hJ0

abbrev seqB (Bl : Nat) : Value := .func (.func 55) #[] #[.pointer (some ⟨Bl, 0, none⟩)]

set_option maxRecDepth 10000 in
set_option maxHeartbeats 2000000 in
theorem eachB_calls (n : Int) (ao : Option Addr) (k cap : Nat) (X : Nat → Nat) (N : Nat) (hn : (Lit.int .i64 n).wf = true) (hk : k ≤ 17592186044416) (hz : ao = none → k = 0 ∧ cap = 0) (hE : Hid (Eff n k X N)) (w : World) (hW : Wds w ao k X) :
    Calls Tryd.prog 31 #[bv n ao k cap] w fun e w' => ∃ Bl g, e = .returned (seqB Bl) ∧ w.heap.size ≤ Bl ∧ w.heap.size ≤ g ∧ SeqB w' Bl g (placesB X N) ∧ Below w.heap.size w w' := by
  have hmf : ∀ (fn : Fn) (first cap : Array Value) (w : World), (Instr.makeFunc fn first cap).run Tryd.prog w = .ok (.func fn first cap) w := fun _ _ _ _ => rfl
  obtain ⟨FA, hFA⟩ := formedB n k X
  have hfc : Hid _ := fun (w1 : World) (hb : Below w.heap.size w w1) => formed_calls n ao k cap X FA hn hk hFA w1 (hW.kept hb)
  have hcc : Hid _ := fun (w1 : World) (hb : Below w.heap.size w w1) => clone_calls ao k cap X hk hz w1 (hW.kept hb)
  have hX : Hid _ := fun j hj => (hW j hj).1
  clear hn hW hz
  go_enter Tryd.func31, Tryd.ntmps31
  go_wp2_with fail
  refine Calls.mono (hfc.out _ (by repeat (first | with_reducible exact Below.refl _ _ | with_reducible refine Below.setCell ?_ (by first | (simp; done) | (simp; omega)) _ | with_reducible refine below_drewN ?_ _ | with_reducible refine Below.alloc ?_ (by first | (simp; done) | (simp; omega)) _ | with_reducible refine Below.drew ?_))) ?_
  rintro e w1 ⟨rfl, hb1⟩
  have a1 : At w1 w.heap.size #[.int .i64 n, .slice ao k cap] 34 := ((At.new w _ _).alloc _).keptAll hb1
  have a2 : At w1 (w.heap.size + 1) #[.slice none 0 0] 32 := by
    have := (At.new (w.alloc (.cells #[.int .i64 n, .slice ao k cap] 34)) #[.slice none 0 0] 32).keptAll (by exact hb1)
    simpa using this
  have hB1 : Below w.heap.size w w1 := Below.trans (by repeat (first | with_reducible exact Below.refl _ _ | with_reducible refine Below.setCell ?_ (by first | (simp; done) | (simp; omega)) _ | with_reducible refine below_drewN ?_ _ | with_reducible refine Below.alloc ?_ (by first | (simp; done) | (simp; omega)) _ | with_reducible refine Below.drew ?_)) (hb1.mono (by simp; omega))
  clear hb1 hfc
  cases FA
  · obtain rfl : N = 0 := by
      rcases hE.out with ⟨h, _⟩ | ⟨_, h⟩
      · have h' := hFA.out.1 h; cases h'
      · exact h
    have a2' : Hid (At w1 (w.heap.size + 1) #[.slice none 0 0] 32) := a2
    clear hE hFA hcc a1 a2
    go_wp2
    go_ret
    exact ⟨w.heap.size + 1, w.heap.size + 1, rfl, by omega, by omega, ⟨none, 0, 0, _, _, X, a2'.out, a2'.out, by omega, rfl, fun j hj => by omega⟩, hB1⟩
  · have hform : formed n k X := hFA.out.2 rfl
    obtain ⟨N', rfl⟩ := Int.eq_ofNat_of_zero_le hform.1
    obtain rfl : N = N' := by
      rcases hE.out with ⟨_, h⟩ | ⟨h, _⟩
      · simpa using h
      · exact (h hform).elim
    have hpl : Hid (placesB X N = placesB X (64 * k)) := by
      show _ = _
      have hk' : k = need N := by simpa using hform.2.1
      unfold need at hk'
      have hle : N ≤ 64 * k := by omega
      have h2 := hform.2.2
      clear hk' hform
      obtain ⟨d, hd⟩ : ∃ d, 64 * k = N + d := ⟨64 * k - N, by omega⟩
      rw [hd] at h2 ⊢
      clear hd hle
      induction d with
      | zero => rfl
      | succ d ih => rw [← Nat.add_assoc, placesB_f (h2 (N + d) (by simp) (by omega)), ← ih (fun i h1 h3 => h2 i h1 (by omega))]
    obtain ⟨c0, c1, -, -⟩ := a1.facts
    have a2' : Hid (At w1 (w.heap.size + 1) #[.slice none 0 0] 32) := a2
    have hs1 := a2.lt
    clear hE hFA hform a1 a2
    go_wp2_with fail
    refine Calls.mono (hcc.out _ hB1) ?_
    rintro e w2 ⟨v, rfl, hown, hb2⟩
    have a3 := a2'.out.keptAll hb2
    have c2 := a3.cell 0
    have f2 := a3.frozen 0
    simp only [List.getElem?_toArray, List.getElem?_cons_zero] at c2
    have hB2 : Below w.heap.size w w2 := hB1.trans (hb2.mono hB1.size)
    have hown' : Hid (w2.ownsRow w1.heap.size 22 1 v k (wl X k)) := hown
    have a3' : Hid (At w2 (w.heap.size + 1) #[.slice none 0 0] 32) := a3
    obtain ⟨vo, vc, rfl⟩ := row_slice hown
    clear c0 c1 hown hb2 a3 a2' hcc
    go_wp2
    go_ret
    have a4 := a3'.out.set 0 (.slice vo k vc)
    have hB4 := hB2.setCell (p := ⟨w.heap.size + 1, 0, none⟩) (by show w.heap.size ≤ w.heap.size + 1; omega) (.slice vo k vc)
    rcases hown'.out.2 with ⟨hv, hk0⟩ | ⟨g, cap', cur, hv, hb, hgb, h3, h4, h5, h6⟩
    · cases hv
      clear hk0
      exact ⟨w.heap.size + 1, w.heap.size + 1, rfl, by omega, by omega, ⟨none, 0, 0, _, _, X, a4, a4, by omega, hpl.out, fun j hj => by omega⟩, hB4⟩
    · cases hv
      refine ⟨w.heap.size + 1, g, rfl, by omega, by omega, ⟨_, k, _, cur, 22, X, a4, At.other (p := ⟨w.heap.size + 1, 0, none⟩) hgb (by show g ≠ w.heap.size + 1; omega) _, hk, hpl.out, fun j hj => ⟨hX.out j hj, rfl, ?_⟩⟩, hB4⟩
      have : (cur.toList.take (k * 1))[j]? = (wl X k)[j]? := by rw [h6]
      rw [List.getElem?_take, if_pos (by omega)] at this
      simp only [Array.getElem?_toList] at this
      rw [this]; simp [wl, hj]
end Go.Proofs.YthhgojdnpkcaaaaDoor
