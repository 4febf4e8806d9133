/-
  The walk of quarrylaw07.QuotesSpans.
-/
import Derived.Test.YthakingpeegagaaDoorSpanKit
import Derived.Test.YthakingpeegagaaDoorRoundQuiet
import Derived.SizedLaws
import Derived.Deep.DeepCutAuto
import Derived.Deep.CondSized
namespace Go.Proofs.YthakingpeegagaaDoor
open Go.RowKit Go.Shelf

attribute [local go_sem] Oper.semAt_some

/-- The frame in which a round's body begins. -/
def SqA (w : World) (s : ByteArray) (b1 b2 b5 bm bs : Nat) (u10 u11 u12 u13 : Value) (x : Nat) (a' : Act) (W : World) : Prop :=
  ∃ (gx A C : Nat), Hid (spn s x = (A, C)) ∧ b5 < gx ∧ At W gx #[.int .i64 (A : Int), .int .i64 (C : Int)] 34 ∧ a' = { tmps := #[.string s, .pointer (some ⟨w.heap.size, 0, none⟩), .pointer (some ⟨w.heap.size + 1, 0, none⟩), .pointer (some ⟨b1, 0, none⟩), .pointer (some ⟨b2, 0, none⟩), .pointer (some ⟨b5, 0, none⟩), .func (.func 40) #[] #[.pointer (some ⟨bm, 0, none⟩), .pointer (some ⟨bs, 0, none⟩)], .pointer (some ⟨gx, 0, none⟩), .bool true, .bool false, u10, u11, u12, u13, .string s, .func (.func 40) #[] #[.pointer (some ⟨bm, 0, none⟩), .pointer (some ⟨bs, 0, none⟩)], .func (.func 40) #[] #[.pointer (some ⟨bm, 0, none⟩), .pointer (some ⟨bs, 0, none⟩)], .bool false, .func (.func 40) #[] #[.pointer (some ⟨bm, 0, none⟩), .pointer (some ⟨bs, 0, none⟩)], .agg #[.int .i64 (A : Int), .int .i64 (C : Int)], undef, undef, undef, undef, undef, undef, undef, undef, undef, undef, undef, undef, undef, undef, undef, undef, undef, undef, undef, undef, undef, undef, undef, undef, undef, undef, undef, undef, undef, undef, undef, undef, undef, undef, undef, undef, undef, undef, undef, undef, undef, undef, undef, undef, undef, undef, undef, undef, undef, undef, undef, undef, undef, undef, undef, undef, undef, undef, undef, undef, undef, undef, undef, undef, undef, undef, undef, undef, undef, undef, undef, undef, undef, undef, undef, undef, undef, undef, undef, undef, undef, undef, undef, undef, undef, undef, undef, undef, undef, undef, undef, undef, undef, undef, undef, undef, undef, undef, undef, undef, undef, undef, undef, undef, undef, undef, undef, undef, undef, undef, undef, undef, undef], defers := [] }
theorem sqA_own {w : World} {s : ByteArray} {b1 b2 b5 bm bs B : Nat} {u10 u11 u12 u13 : Value} (x : Nat) (a' : Act) : OwnFrom B (fun (_ : Unit) W => SqA w s b1 b2 b5 bm bs u10 u11 u12 u13 x a' W) := fun _ X Y row hs hg hr => by
  obtain ⟨gx, A, C, h1, h4, h5, h6⟩ := hs
  exact ⟨gx, A, C, h1, h4, h5.own hg (fun r e => (hr r e).2), h6⟩
theorem keptQ {w W Z : World} {s : ByteArray} (h : At W w.heap.size #[.string s] 9 ∧ At W (w.heap.size + 1) #[.bool false] 4) (hb : Below W.heap.size W Z) : At Z w.heap.size #[.string s] 9 ∧ At Z (w.heap.size + 1) #[.bool false] 4 := ⟨h.1.keptAll hb, h.2.keptAll hb⟩
theorem at_apart {W : World} {b c : Nat} {xs ys : Array Value} {t u : TypeId} (h : At W b xs t) (k : At W c ys u) (ht : t ≠ u) : b ≠ c := fun e => by
  subst e
  have : some (Obj.cells xs t) = some (Obj.cells ys u) := h.symm.trans k
  injection this with this
  injection this with _ this
  exact ht this
theorem spB_fin {w W : World} {s : ByteArray} {k b1 b2 g1 g2 : Nat} (hk : need s.size = k) (hm : At W g1 (rowCells k (rowOf (markS s) s.size)) 58) (hi : At W g2 (rowCells k (rowOf (inS s) s.size)) 58) (h1 : At W b1 #[.int .i64 0, .slice none 0 0] 25) (h2 : At W b2 #[.int .i64 0, .slice none 0 0] 25)
    (d : b1 ≠ b2) (l1 : w.heap.size + 2 ≤ b1) (l2 : w.heap.size + 2 ≤ b2) (l3 : w.heap.size + 2 ≤ g1) (l4 : w.heap.size + 2 ≤ g2) (hs : At W w.heap.size #[.string s] 9) (hr : At W (w.heap.size + 1) #[.bool false] 4) (hB : Below w.heap.size w W) :
    (At ((W.setCell ⟨b1, 0, none⟩ (.int .i64 (s.size : Int))).setCell ⟨b1, 1, none⟩ (.slice (some ⟨g1, 0, none⟩) k k)) w.heap.size #[.string s] 9 ∧ At ((W.setCell ⟨b1, 0, none⟩ (.int .i64 (s.size : Int))).setCell ⟨b1, 1, none⟩ (.slice (some ⟨g1, 0, none⟩) k k)) (w.heap.size + 1) #[.bool false] 4) ∧
    (At ((((W.setCell ⟨b1, 0, none⟩ (.int .i64 (s.size : Int))).setCell ⟨b1, 1, none⟩ (.slice (some ⟨g1, 0, none⟩) k k)).setCell ⟨b2, 0, none⟩ (.int .i64 (s.size : Int))).setCell ⟨b2, 1, none⟩ (.slice (some ⟨g2, 0, none⟩) k k)) w.heap.size #[.string s] 9 ∧ At ((((W.setCell ⟨b1, 0, none⟩ (.int .i64 (s.size : Int))).setCell ⟨b1, 1, none⟩ (.slice (some ⟨g1, 0, none⟩) k k)).setCell ⟨b2, 0, none⟩ (.int .i64 (s.size : Int))).setCell ⟨b2, 1, none⟩ (.slice (some ⟨g2, 0, none⟩) k k)) (w.heap.size + 1) #[.bool false] 4) ∧
    SpB w s b1 b2 g1 g2 ((((W.setCell ⟨b1, 0, none⟩ (.int .i64 (s.size : Int))).setCell ⟨b1, 1, none⟩ (.slice (some ⟨g1, 0, none⟩) k k)).setCell ⟨b2, 0, none⟩ (.int .i64 (s.size : Int))).setCell ⟨b2, 1, none⟩ (.slice (some ⟨g2, 0, none⟩) k k)) := by
  subst hk
  have oth : ∀ {b : Nat} {cs : Array Value} {t : TypeId}, At W b cs t → b ≠ b1 → At ((W.setCell ⟨b1, 0, none⟩ (.int .i64 (s.size : Int))).setCell ⟨b1, 1, none⟩ (.slice (some ⟨g1, 0, none⟩) (need s.size) (need s.size))) b cs t := fun h hb => (h.other (p := ⟨b1, 0, none⟩) hb _).other (p := ⟨b1, 1, none⟩) hb _
  have m1 := at_apart hm h1 (by decide)
  have m2 := at_apart hm h2 (by decide)
  have i1 := at_apart hi h1 (by decide)
  have i2 := at_apart hi h2 (by decide)
  have k1 := h1.two (x' := .int .i64 (s.size : Int)) (y' := .slice (some ⟨g1, 0, none⟩) (need s.size) (need s.size))
  have k2 := oth h2 (Ne.symm d)
  have km := oth hm m1
  have ki := oth hi i1
  have ks := oth hs (by omega)
  have kr := oth hr (by omega)
  have kB : Below w.heap.size w ((W.setCell ⟨b1, 0, none⟩ (.int .i64 (s.size : Int))).setCell ⟨b1, 1, none⟩ (.slice (some ⟨g1, 0, none⟩) (need s.size) (need s.size))) := (hB.setCell (p := ⟨b1, 0, none⟩) (by show w.heap.size ≤ b1; omega) _).setCell (p := ⟨b1, 1, none⟩) (by show w.heap.size ≤ b1; omega) _
  clear oth
  refine ⟨⟨ks, kr⟩, ?_⟩
  generalize (W.setCell ⟨b1, 0, none⟩ (.int .i64 (s.size : Int))).setCell ⟨b1, 1, none⟩ (.slice (some ⟨g1, 0, none⟩) (need s.size) (need s.size)) = X at *
  have oth : ∀ {b : Nat} {cs : Array Value} {t : TypeId}, At X b cs t → b ≠ b2 → At ((X.setCell ⟨b2, 0, none⟩ (.int .i64 (s.size : Int))).setCell ⟨b2, 1, none⟩ (.slice (some ⟨g2, 0, none⟩) (need s.size) (need s.size))) b cs t := fun h hb => (h.other (p := ⟨b2, 0, none⟩) hb _).other (p := ⟨b2, 1, none⟩) hb _
  exact ⟨⟨oth ks (by omega), oth kr (by omega)⟩, ⟨oth k1 d, oth km m2⟩, ⟨k2.two, oth ki i2⟩, l1, l2, l3, l4, oth ks (by omega), oth kr (by omega), (kB.setCell (p := ⟨b2, 0, none⟩) (by show w.heap.size ≤ b2; omega) _).setCell (p := ⟨b2, 1, none⟩) (by show w.heap.size ≤ b2; omega) _⟩

end Go.Proofs.YthakingpeegagaaDoor
