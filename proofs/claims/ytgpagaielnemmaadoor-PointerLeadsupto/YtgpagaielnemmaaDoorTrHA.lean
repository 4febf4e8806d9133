/-
 TrH, TrH2, TrH3, TrH4, one behind the other.
-/
import Derived.Test.YtgpagaielnemmaaDoorTrG
import Derived.Test.YtgpagaielnemmaaDoorUtf8W
import Derived.Test.YtgpagaielnemmaaDoorUtf8A
import Derived.Test.YtgpagaielnemmaaDoorPack1
import Derived.Lib.ConvBytes
import Derived.Laws.AppendOwn
import Derived.Test.YtgpagaielnemmaaDoorRefScan
import Derived.Test.YtgpagaielnemmaaDoorDecR
/- quarryref17.plain, kind by kind: the fields that a kind uses, all others zero. -/
namespace Go.Proofs.YtgpagaielnemmaaDoor
open Go.RowKit Go.Shelf
end Go.Proofs.YtgpagaielnemmaaDoor
/- quarryref17.plain of numbers, texts and objects, and of what is none of these; all kinds together. -/
namespace Go.Proofs.YtgpagaielnemmaaDoor
open Go.RowKit Go.Shelf
end Go.Proofs.YtgpagaielnemmaaDoor
/- quarryref17.plain of objects; all kinds together; quarryref17.formed. -/
namespace Go.Proofs.YtgpagaielnemmaaDoor
open Go.RowKit Go.Shelf
/-- Are all names UTF-8? -/
def allB (ks : List ByteArray) : Bool := ks.all fun k => decide (badOf k = -1)
end Go.Proofs.YtgpagaielnemmaaDoor
/- quarryref17.plain of any value; quarryref17.formed and Formed. -/
namespace Go.Proofs.YtgpagaielnemmaaDoor
open Go.RowKit Go.Shelf
/-- The fields that a kind uses, all others zero. -/
def plainV : Vt → Bool
 | .mk k b r t ks vs =>
  if k = 1 then decide (ks.length = 0) && (decide (vs.length = 0) && (!b && ((r.toList == []) && (t.toList == []))))
  else if k = 2 then decide (ks.length = 0) && (decide (vs.length = 0) && ((r.toList == []) && (t.toList == [])))
  else if k = 3 then decide (ks.length = 0) && (decide (vs.length = 0) && (!b && ((t.toList == []) && (decide ((ofS r).2 = 0) || decide ((ofS r).2 = 111)))))
  else if k = 4 then decide (ks.length = 0) && (decide (vs.length = 0) && (!b && ((r.toList == []) && decide (badOf t = -1))))
  else if k = 5 then !b && ((r.toList == []) && ((t.toList == []) && decide (ks.length = 0)))
  else if k = 6 then allB ks && (!b && ((r.toList == []) && ((t.toList == []) && decide (ks.length = vs.length))))
  else false
mutual
/-- Is it well shaped, within so many levels? -/
def wfV : Vt → Int → Bool
 | .mk k b r t ks vs, l => plainV (.mk k b r t ks vs) && (!(decide (k = 5 ∨ k = 6) && decide (l = 0)) && wfL vs (l - 1))
def wfL : List Vt → Int → Bool
 | [], _ => true
 | v :: vs, l => wfV v l && wfL vs l
end
theorem wfL_drop {vs : List Vt} {i : Nat} {u : Vt} (l : Int) (h : vs[i]? = some u) : wfL (vs.drop i) l = (wfV u l && wfL (vs.drop (i + 1)) l) := by
 rw [drop_some h]
 conv => lhs; unfold wfL
/-- What has Kids, and all others zero, is an array or an object. -/
theorem plain_kids {k : Int} {b : Bool} {r t : ByteArray} {ks : List ByteArray} {vs : List Vt} (h : plainV (.mk k b r t ks vs) = true) (hk : ¬ (k = 5 ∨ k = 6)) : vs.length = 0 := by
 unfold plainV at h
 dsimp only at h
 rw [if_neg (show ¬ k = 5 by omega), if_neg (show ¬ k = 6 by omega)] at h
 repeat' split at h
 all_goals first
  | (simp only [Bool.and_eq_true, decide_eq_true_eq] at h; exact h.2.1)
  | (cases h; done)
end Go.Proofs.YtgpagaielnemmaaDoor
