/-
  What bitmap.And, Or, Xor and Minus answer.
-/
import Derived.Test.YtkdcloiepeenoaaDoorJoinWalk
import Derived.Shelf.Abstract
namespace Go.Proofs.YtkdcloiepeenoaaDoor
open Go.RowKit Go.Shelf

theorem and_puts : Puts 33 (fun x y => x &&& y) := by
  refine ⟨enters_of Tryd.func33 (by kernel_rfl) rfl, fun x y w hx hy => ?_⟩
  have e1 : bits BinOp.and IntKind.u64 (x : Int) (y : Int) = ((x &&& y : Nat) : Int) := u64_and_nat x y hx hy
  go_enter Tryd.func33, Tryd.ntmps33
  go_wp2
  go_ret
  exact ⟨rfl, rfl⟩

set_option maxRecDepth 10000 in
set_option maxHeartbeats 1000000 in
theorem and_calls (n m : Int) (ao bo : Option Addr) (k l cap cap' : Nat) (X Y : Nat → Nat) (hn : (Lit.int .i64 n).wf = true) (hm : (Lit.int .i64 m).wf = true) (hk : k ≤ 17592186044416) (hl : l ≤ 17592186044416)
    (w : World) (hW : Wds w ao k X) (hV : Wds w bo l Y) :
    Calls Tryd.prog 9 #[bv n ao k cap, bv m bo l cap'] w fun e w' => Joined (fun x y => x &&& y) n m k l X Y w e w' := by
  go_enter Tryd.func9, Tryd.ntmps9
  have hj : Hid _ := fun (w1 : World) (hb : Below w.heap.size w w1) => joined_calls _ _ and_puts n m ao bo k l cap cap' X Y hn hm hk hl w1 (hW.kept hb) (hV.kept hb)
  clear hW hV hn hm
  go_wp2_with fail
  refine Calls.mono (hj.out _ (by repeat (first | with_reducible exact Below.refl _ _ | with_reducible refine Below.setCell ?_ (by first | (simp; done) | (simp; omega)) _ | with_reducible refine below_drewN ?_ _ | with_reducible refine Below.alloc ?_ (by first | (simp; done) | (simp; omega)) _ | with_reducible refine Below.drew ?_))) ?_
  rintro e w1 ⟨hb1, hcase⟩
  have a3 : At w1 (w.heap.size + 2) #[.int .i64 0, .slice none 0 0] 24 := by
    have h := At.new ((w.alloc (.cells #[.int .i64 n, .slice ao k cap] 24)).alloc (.cells #[.int .i64 m, .slice bo l cap'] 24)) #[.int .i64 0, .slice none 0 0] 24
    have h2 := h.keptAll hb1
    simpa using h2
  have hB1 : Below w.heap.size w w1 := Below.trans (by repeat (first | with_reducible exact Below.refl _ _ | with_reducible refine Below.setCell ?_ (by first | (simp; done) | (simp; omega)) _ | with_reducible refine below_drewN ?_ _ | with_reducible refine Below.alloc ?_ (by first | (simp; done) | (simp; omega)) _ | with_reducible refine Below.drew ?_)) (hb1.mono (by simp; omega))
  obtain ⟨a30, a31, f30, f31⟩ := a3.facts
  have a3' : Hid (At w1 (w.heap.size + 2) #[.int .i64 0, .slice none 0 0] 24) := a3
  have hB2 := fun u v => (hB1.setCell (p := ⟨w.heap.size + 2, 0, none⟩) (by show w.heap.size ≤ w.heap.size + 2; omega) u).setCell (p := ⟨w.heap.size + 2, 1, none⟩) (by show w.heap.size ≤ w.heap.size + 2; omega) v
  have hB2' : Hid _ := hB2
  clear a3 hj hB2
  rcases hcase with ⟨h, rfl⟩ | ⟨h, h2, rfl⟩ | ⟨h, h2, g, hg, hrow, rfl⟩
  · have h' : Hid _ := h
    clear h hb1
    go_wp2
    exact ret_bits2 rfl rfl a3'.out.two rfl ⟨hB2'.out _ _, .inl ⟨h'.out, rfl⟩⟩
  · have h' : Hid _ := h
    have h2' : Hid _ := h2
    clear h h2 hb1
    go_wp2
    exact ret_bits2 rfl rfl a3'.out.two rfl ⟨hB2'.out _ _, .inr (.inl ⟨h'.out, h2'.out, rfl⟩)⟩
  · have h' : Hid _ := h
    have h2' : Hid (n = m) := h2
    have hg' : w.heap.size + 3 ≤ g := by simp at hg; omega
    have hrow' : Hid (At w1 g (rowCells k (fun j => (fun x y => x &&& y) (X j) (Y j))) 39) := hrow
    clear h h2 hb1 hg hrow
    go_wp2
    exact ret_bits2 rfl rfl a3'.out.two rfl ⟨hB2'.out _ _, .inr (.inr ⟨h'.out, h2'.out, g, by omega,
      (hrow'.out.other (p := ⟨w.heap.size + 2, 0, none⟩) (by show g ≠ w.heap.size + 2; omega) _).other (p := ⟨w.heap.size + 2, 1, none⟩) (by show g ≠ w.heap.size + 2; omega) _, rfl⟩)⟩

theorem or_puts : Puts 39 (fun x y => x ||| y) := by
  refine ⟨enters_of Tryd.func39 (by kernel_rfl) rfl, fun x y w hx hy => ?_⟩
  have e1 : bits BinOp.or IntKind.u64 (x : Int) (y : Int) = ((x ||| y : Nat) : Int) := u64_or_nat x y hx hy
  go_enter Tryd.func39, Tryd.ntmps39
  go_wp2
  go_ret
  exact ⟨rfl, rfl⟩

set_option maxRecDepth 10000 in
set_option maxHeartbeats 1000000 in
theorem or_calls (n m : Int) (ao bo : Option Addr) (k l cap cap' : Nat) (X Y : Nat → Nat) (hn : (Lit.int .i64 n).wf = true) (hm : (Lit.int .i64 m).wf = true) (hk : k ≤ 17592186044416) (hl : l ≤ 17592186044416)
    (w : World) (hW : Wds w ao k X) (hV : Wds w bo l Y) :
    Calls Tryd.prog 13 #[bv n ao k cap, bv m bo l cap'] w fun e w' => Joined (fun x y => x ||| y) n m k l X Y w e w' := by
  go_enter Tryd.func13, Tryd.ntmps13
  have hj : Hid _ := fun (w1 : World) (hb : Below w.heap.size w w1) => joined_calls _ _ or_puts n m ao bo k l cap cap' X Y hn hm hk hl w1 (hW.kept hb) (hV.kept hb)
  clear hW hV hn hm
  go_wp2_with fail
  refine Calls.mono (hj.out _ (by repeat (first | with_reducible exact Below.refl _ _ | with_reducible refine Below.setCell ?_ (by first | (simp; done) | (simp; omega)) _ | with_reducible refine below_drewN ?_ _ | with_reducible refine Below.alloc ?_ (by first | (simp; done) | (simp; omega)) _ | with_reducible refine Below.drew ?_))) ?_
  rintro e w1 ⟨hb1, hcase⟩
  have a3 : At w1 (w.heap.size + 2) #[.int .i64 0, .slice none 0 0] 24 := by
    have h := At.new ((w.alloc (.cells #[.int .i64 n, .slice ao k cap] 24)).alloc (.cells #[.int .i64 m, .slice bo l cap'] 24)) #[.int .i64 0, .slice none 0 0] 24
    have h2 := h.keptAll hb1
    simpa using h2
  have hB1 : Below w.heap.size w w1 := Below.trans (by repeat (first | with_reducible exact Below.refl _ _ | with_reducible refine Below.setCell ?_ (by first | (simp; done) | (simp; omega)) _ | with_reducible refine below_drewN ?_ _ | with_reducible refine Below.alloc ?_ (by first | (simp; done) | (simp; omega)) _ | with_reducible refine Below.drew ?_)) (hb1.mono (by simp; omega))
  obtain ⟨a30, a31, f30, f31⟩ := a3.facts
  have a3' : Hid (At w1 (w.heap.size + 2) #[.int .i64 0, .slice none 0 0] 24) := a3
  have hB2 := fun u v => (hB1.setCell (p := ⟨w.heap.size + 2, 0, none⟩) (by show w.heap.size ≤ w.heap.size + 2; omega) u).setCell (p := ⟨w.heap.size + 2, 1, none⟩) (by show w.heap.size ≤ w.heap.size + 2; omega) v
  have hB2' : Hid _ := hB2
  clear a3 hj hB2
  rcases hcase with ⟨h, rfl⟩ | ⟨h, h2, rfl⟩ | ⟨h, h2, g, hg, hrow, rfl⟩
  · have h' : Hid _ := h
    clear h hb1
    go_wp2
    exact ret_bits2 rfl rfl a3'.out.two rfl ⟨hB2'.out _ _, .inl ⟨h'.out, rfl⟩⟩
  · have h' : Hid _ := h
    have h2' : Hid _ := h2
    clear h h2 hb1
    go_wp2
    exact ret_bits2 rfl rfl a3'.out.two rfl ⟨hB2'.out _ _, .inr (.inl ⟨h'.out, h2'.out, rfl⟩)⟩
  · have h' : Hid _ := h
    have h2' : Hid (n = m) := h2
    have hg' : w.heap.size + 3 ≤ g := by simp at hg; omega
    have hrow' : Hid (At w1 g (rowCells k (fun j => (fun x y => x ||| y) (X j) (Y j))) 39) := hrow
    clear h h2 hb1 hg hrow
    go_wp2
    exact ret_bits2 rfl rfl a3'.out.two rfl ⟨hB2'.out _ _, .inr (.inr ⟨h'.out, h2'.out, g, by omega,
      (hrow'.out.other (p := ⟨w.heap.size + 2, 0, none⟩) (by show g ≠ w.heap.size + 2; omega) _).other (p := ⟨w.heap.size + 2, 1, none⟩) (by show g ≠ w.heap.size + 2; omega) _, rfl⟩)⟩

theorem xor_puts : Puts 40 (fun x y => x ^^^ y) := by
  refine ⟨enters_of Tryd.func40 (by kernel_rfl) rfl, fun x y w hx hy => ?_⟩
  have e1 : bits BinOp.xor IntKind.u64 (x : Int) (y : Int) = ((x ^^^ y : Nat) : Int) := u64_xor_nat x y hx hy
  go_enter Tryd.func40, Tryd.ntmps40
  go_wp2
  go_ret
  exact ⟨rfl, rfl⟩

set_option maxRecDepth 10000 in
set_option maxHeartbeats 1000000 in
theorem xor_calls (n m : Int) (ao bo : Option Addr) (k l cap cap' : Nat) (X Y : Nat → Nat) (hn : (Lit.int .i64 n).wf = true) (hm : (Lit.int .i64 m).wf = true) (hk : k ≤ 17592186044416) (hl : l ≤ 17592186044416)
    (w : World) (hW : Wds w ao k X) (hV : Wds w bo l Y) :
    Calls Tryd.prog 14 #[bv n ao k cap, bv m bo l cap'] w fun e w' => Joined (fun x y => x ^^^ y) n m k l X Y w e w' := by
  go_enter Tryd.func14, Tryd.ntmps14
  have hj : Hid _ := fun (w1 : World) (hb : Below w.heap.size w w1) => joined_calls _ _ xor_puts n m ao bo k l cap cap' X Y hn hm hk hl w1 (hW.kept hb) (hV.kept hb)
  clear hW hV hn hm
  go_wp2_with fail
  refine Calls.mono (hj.out _ (by repeat (first | with_reducible exact Below.refl _ _ | with_reducible refine Below.setCell ?_ (by first | (simp; done) | (simp; omega)) _ | with_reducible refine below_drewN ?_ _ | with_reducible refine Below.alloc ?_ (by first | (simp; done) | (simp; omega)) _ | with_reducible refine Below.drew ?_))) ?_
  rintro e w1 ⟨hb1, hcase⟩
  have a3 : At w1 (w.heap.size + 2) #[.int .i64 0, .slice none 0 0] 24 := by
    have h := At.new ((w.alloc (.cells #[.int .i64 n, .slice ao k cap] 24)).alloc (.cells #[.int .i64 m, .slice bo l cap'] 24)) #[.int .i64 0, .slice none 0 0] 24
    have h2 := h.keptAll hb1
    simpa using h2
  have hB1 : Below w.heap.size w w1 := Below.trans (by repeat (first | with_reducible exact Below.refl _ _ | with_reducible refine Below.setCell ?_ (by first | (simp; done) | (simp; omega)) _ | with_reducible refine below_drewN ?_ _ | with_reducible refine Below.alloc ?_ (by first | (simp; done) | (simp; omega)) _ | with_reducible refine Below.drew ?_)) (hb1.mono (by simp; omega))
  obtain ⟨a30, a31, f30, f31⟩ := a3.facts
  have a3' : Hid (At w1 (w.heap.size + 2) #[.int .i64 0, .slice none 0 0] 24) := a3
  have hB2 := fun u v => (hB1.setCell (p := ⟨w.heap.size + 2, 0, none⟩) (by show w.heap.size ≤ w.heap.size + 2; omega) u).setCell (p := ⟨w.heap.size + 2, 1, none⟩) (by show w.heap.size ≤ w.heap.size + 2; omega) v
  have hB2' : Hid _ := hB2
  clear a3 hj hB2
  rcases hcase with ⟨h, rfl⟩ | ⟨h, h2, rfl⟩ | ⟨h, h2, g, hg, hrow, rfl⟩
  · have h' : Hid _ := h
    clear h hb1
    go_wp2
    exact ret_bits2 rfl rfl a3'.out.two rfl ⟨hB2'.out _ _, .inl ⟨h'.out, rfl⟩⟩
  · have h' : Hid _ := h
    have h2' : Hid _ := h2
    clear h h2 hb1
    go_wp2
    exact ret_bits2 rfl rfl a3'.out.two rfl ⟨hB2'.out _ _, .inr (.inl ⟨h'.out, h2'.out, rfl⟩)⟩
  · have h' : Hid _ := h
    have h2' : Hid (n = m) := h2
    have hg' : w.heap.size + 3 ≤ g := by simp at hg; omega
    have hrow' : Hid (At w1 g (rowCells k (fun j => (fun x y => x ^^^ y) (X j) (Y j))) 39) := hrow
    clear h h2 hb1 hg hrow
    go_wp2
    exact ret_bits2 rfl rfl a3'.out.two rfl ⟨hB2'.out _ _, .inr (.inr ⟨h'.out, h2'.out, g, by omega,
      (hrow'.out.other (p := ⟨w.heap.size + 2, 0, none⟩) (by show g ≠ w.heap.size + 2; omega) _).other (p := ⟨w.heap.size + 2, 1, none⟩) (by show g ≠ w.heap.size + 2; omega) _, rfl⟩)⟩

theorem minus_puts : Puts 41 (fun x y => x &&& (18446744073709551615 - y)) := by
  refine ⟨enters_of Tryd.func41 (by kernel_rfl) rfl, fun x y w hx hy => ?_⟩
  have e1 : bits BinOp.andNot IntKind.u64 (x : Int) (y : Int) = ((x &&& (18446744073709551615 - y) : Nat) : Int) := u64_andNot_nat x y hx hy
  go_enter Tryd.func41, Tryd.ntmps41
  go_wp2
  go_ret
  exact ⟨rfl, rfl⟩

set_option maxRecDepth 10000 in
set_option maxHeartbeats 1000000 in
theorem minus_calls (n m : Int) (ao bo : Option Addr) (k l cap cap' : Nat) (X Y : Nat → Nat) (hn : (Lit.int .i64 n).wf = true) (hm : (Lit.int .i64 m).wf = true) (hk : k ≤ 17592186044416) (hl : l ≤ 17592186044416)
    (w : World) (hW : Wds w ao k X) (hV : Wds w bo l Y) :
    Calls Tryd.prog 15 #[bv n ao k cap, bv m bo l cap'] w fun e w' => Joined (fun x y => x &&& (18446744073709551615 - y)) n m k l X Y w e w' := by
  go_enter Tryd.func15, Tryd.ntmps15
  have hj : Hid _ := fun (w1 : World) (hb : Below w.heap.size w w1) => joined_calls _ _ minus_puts n m ao bo k l cap cap' X Y hn hm hk hl w1 (hW.kept hb) (hV.kept hb)
  clear hW hV hn hm
  go_wp2_with fail
  refine Calls.mono (hj.out _ (by repeat (first | with_reducible exact Below.refl _ _ | with_reducible refine Below.setCell ?_ (by first | (simp; done) | (simp; omega)) _ | with_reducible refine below_drewN ?_ _ | with_reducible refine Below.alloc ?_ (by first | (simp; done) | (simp; omega)) _ | with_reducible refine Below.drew ?_))) ?_
  rintro e w1 ⟨hb1, hcase⟩
  have a3 : At w1 (w.heap.size + 2) #[.int .i64 0, .slice none 0 0] 24 := by
    have h := At.new ((w.alloc (.cells #[.int .i64 n, .slice ao k cap] 24)).alloc (.cells #[.int .i64 m, .slice bo l cap'] 24)) #[.int .i64 0, .slice none 0 0] 24
    have h2 := h.keptAll hb1
    simpa using h2
  have hB1 : Below w.heap.size w w1 := Below.trans (by repeat (first | with_reducible exact Below.refl _ _ | with_reducible refine Below.setCell ?_ (by first | (simp; done) | (simp; omega)) _ | with_reducible refine below_drewN ?_ _ | with_reducible refine Below.alloc ?_ (by first | (simp; done) | (simp; omega)) _ | with_reducible refine Below.drew ?_)) (hb1.mono (by simp; omega))
  obtain ⟨a30, a31, f30, f31⟩ := a3.facts
  have a3' : Hid (At w1 (w.heap.size + 2) #[.int .i64 0, .slice none 0 0] 24) := a3
  have hB2 := fun u v => (hB1.setCell (p := ⟨w.heap.size + 2, 0, none⟩) (by show w.heap.size ≤ w.heap.size + 2; omega) u).setCell (p := ⟨w.heap.size + 2, 1, none⟩) (by show w.heap.size ≤ w.heap.size + 2; omega) v
  have hB2' : Hid _ := hB2
  clear a3 hj hB2
  rcases hcase with ⟨h, rfl⟩ | ⟨h, h2, rfl⟩ | ⟨h, h2, g, hg, hrow, rfl⟩
  · have h' : Hid _ := h
    clear h hb1
    go_wp2
    exact ret_bits2 rfl rfl a3'.out.two rfl ⟨hB2'.out _ _, .inl ⟨h'.out, rfl⟩⟩
  · have h' : Hid _ := h
    have h2' : Hid _ := h2
    clear h h2 hb1
    go_wp2
    exact ret_bits2 rfl rfl a3'.out.two rfl ⟨hB2'.out _ _, .inr (.inl ⟨h'.out, h2'.out, rfl⟩)⟩
  · have h' : Hid _ := h
    have h2' : Hid (n = m) := h2
    have hg' : w.heap.size + 3 ≤ g := by simp at hg; omega
    have hrow' : Hid (At w1 g (rowCells k (fun j => (fun x y => x &&& (18446744073709551615 - y)) (X j) (Y j))) 39) := hrow
    clear h h2 hb1 hg hrow
    go_wp2
    exact ret_bits2 rfl rfl a3'.out.two rfl ⟨hB2'.out _ _, .inr (.inr ⟨h'.out, h2'.out, g, by omega,
      (hrow'.out.other (p := ⟨w.heap.size + 2, 0, none⟩) (by show g ≠ w.heap.size + 2; omega) _).other (p := ⟨w.heap.size + 2, 1, none⟩) (by show g ≠ w.heap.size + 2; omega) _, rfl⟩)⟩

end Go.Proofs.YtkdcloiepeenoaaDoor
