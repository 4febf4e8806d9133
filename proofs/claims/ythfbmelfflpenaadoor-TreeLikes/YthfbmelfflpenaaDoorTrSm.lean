/-
  quarryref17.Same.
-/
import Derived.Test.YthfbmelfflpenaaDoorPack1
namespace Go.Proofs.YthfbmelfflpenaaDoor
open Go.RowKit Go.Shelf

set_option maxRecDepth 10000 in
set_option maxHeartbeats 4000000 in
theorem same17_calls (t u : Vt) (B : Bool) (hB : Hid (B = true ↔ t = u)) (va vb : Value) (w : World) (ha : ValAt w t va) (hb : ValAt w u vb) :
    Calls Tryd.prog 15 #[va, vb] w fun e w' => e = .returned (.bool B) ∧ Below w.heap.size w w' := by
  have hc := hid (fun u0 hu hu2 => sameV_calls t u va vb B hB u0 hu hu2)
  have ha' := hid ha
  have hb' := hid hb
  cases ha with
  | mk k b r t ks vs ko kc vo vc X hw hzz hk hr hv =>
  cases hb with
  | mk k2 b2 r2 t2 ks2 vs2 ko2 kc2 vo2 vc2 X2 hw2 hzz2 hk2 hr2 hv2 =>
  clear hw hzz hk hr hv hw2 hzz2 hk2 hr2 hv2 hB
  generalize ks.length = N at *
  generalize vs.length = M at *
  generalize ks2.length = N2 at *
  generalize vs2.length = M2 at *
  have B1 : Hid (Below w.heap.size w ((w.alloc (.cells #[.int .i64 k, .bool b, .string r, .string t, .slice ko N kc, .slice vo M vc] 25)).alloc (.cells #[.int .i64 k2, .bool b2, .string r2, .string t2, .slice ko2 N2 kc2, .slice vo2 M2 vc2] 25))) := by
    show Below _ _ _
    repeat (first | with_reducible exact Below.refl _ _ | with_reducible refine Below.setCell ?_ (by first | (simp; done) | (simp; omega)) _ | with_reducible refine below_drewN ?_ _ | with_reducible refine Below.alloc ?_ (by first | (simp; done) | (simp; omega)) _ | with_reducible refine Below.drew ?_)
  go_enter Tryd.func15, Tryd.ntmps15
  go_wp2_with fail
  generalize (w.alloc (.cells #[.int .i64 k, .bool b, .string r, .string t, .slice ko N kc, .slice vo M vc] 25)).alloc (.cells #[.int .i64 k2, .bool b2, .string r2, .string t2, .slice ko2 N2 kc2, .slice vo2 M2 vc2] 25) = W at B1 ⊢
  refine Calls.mono (hc.out W (ha'.out.kept B1.out) (hb'.out.kept B1.out)) ?_
  rintro e w1 ⟨rfl, hb⟩
  have hbb := hid (B1.out.trans (hb.mono B1.out.size))
  clear hb hc B1 ha' hb'
  go_wp2
  go_ret
  exact ⟨rfl, hbb.out⟩
end Go.Proofs.YthfbmelfflpenaaDoor
