/-
  The walk through quarrylaw10.LevelsBuild.
-/
import Derived.Test.YtjccgiadmnogeaaDoorLvAwake
import Derived.Test.YtjccgiadmnogeaaDoorRefB2
namespace Go.Proofs.YtjccgiadmnogeaaDoor
open Go.RowKit Go.Shelf

theorem rd_none (W : World) (lo : Option Addr) (n : Nat) (F : Nat → Nat → Nat) : RdL W lo 0 n F := fun k hk => by omega
set_option maxRecDepth 10000 in
set_option maxHeartbeats 4000000 in
theorem levelsBuild_walk (s : ByteArray) (hs : s.size ≤ 1048576) (a : Int) (ha : (Lit.int .i64 a).wf = true) (w : World) (hT : Tab w) (hM : TabM w) (h0 : 1 < w.heap.size) :
    Calls Tryd.prog 5 #[.string s, .int .i64 a] w fun e w' => e = .returned (.bool true) ∧ Below w.heap.size w w' := by
  have _ := ha
  have hAw := hid (fun (w1 : World) (hb : Below w.heap.size w w1) => awake10_calls w1 (hT.below hb (by omega)) (hM.below hb h0) (by have := hb.size; omega))
  obtain ⟨m, E, F, G, hm, hBu, hRb⟩ : ∃ (m : Nat) (E : Int) (F G : Nat → Nat → Nat), m ≤ 64 ∧ Hid (Calls Tryd.prog 12 #[.string s, .int .i64 a] w fun e w' => ∃ lo1 lo2 e1 e2, e = .returned (.tuple #[.agg #[.slice lo1 m e1, .slice lo2 m e2], .int .i64 E]) ∧ RdL w' lo1 m s.size F ∧ RdL w' lo2 m s.size G ∧ Below w.heap.size w w') ∧
      Hid (∀ u : World, Calls Tryd.prog 14 #[.string s, .int .i64 a] u fun e w' => ∃ lo1 lo2 e1 e2, e = .returned (.tuple #[.agg #[.slice lo1 m e1, .slice lo2 m e2], .int .i64 E]) ∧ RdL w' lo1 m s.size F ∧ RdL w' lo2 m s.size G ∧ Below u.heap.size u w') := by
    by_cases hr : a < 1 ∨ 64 < a
    · refine ⟨0, 2, fun _ _ => 0, fun _ _ => 0, by omega, ?_, fun u => ?_⟩
      · refine Calls.mono (build_no s a hr w) ?_
        rintro e w' ⟨rfl, hb⟩
        exact ⟨none, none, 0, 0, rfl, rd_none _ _ _ _, rd_none _ _ _ _, hb⟩
      · refine Calls.mono (refBuild_no s a hr u) ?_
        rintro e w' ⟨rfl, hb⟩
        exact ⟨none, none, 0, 0, rfl, rd_none _ _ _ _, rd_none _ _ _ _, hb⟩
    · obtain ⟨m, rfl⟩ := Int.eq_ofNat_of_zero_le (show 0 ≤ a by omega)
      refine ⟨m, 0, rf58 s, rf44 s, by omega, ?_, fun u => ?_⟩
      · refine Calls.mono (build_calls s (by omega) m (by omega) (by omega) w hT hM h0) ?_
        rintro e w' ⟨A, B, rfl, h1, h2, h3, h4, h5⟩
        exact ⟨_, _, m, m, rfl, h3.rd (fun _ _ => rowOf_lt _ _ _), h4.rd (fun _ _ => rowOf_lt _ _ _), h5⟩
      · refine Calls.mono (refBuild_calls s hs m (by omega) (by omega) u) ?_
        rintro e w' ⟨lo1, c1, lo2, c2, rfl, h1, h2, h3⟩
        exact ⟨_, _, _, _, rfl, h1, h2, h3⟩
  have hn : Hid (s.size ≤ 1099511627776) := by show _ ≤ _; omega
  clear hT hM h0 hs
  go_enter Tryd.func5, Tryd.ntmps5
  go_wp2_with fail
  refine Calls.mono hBu.out ?_
  rintro e w1 ⟨lo1, lo2, e1, e2, rfl, r1, r2, hb1⟩
  obtain ⟨V, hV⟩ : ∃ V, w1.alloc (.cells #[.slice lo1 m e1, .slice lo2 m e2] 32) = V := ⟨_, rfl⟩
  have aV : At V w1.heap.size #[.slice lo1 m e1, .slice lo2 m e2] 32 := by rw [← hV]; exact At.new w1 _ _
  have bV : Below w1.heap.size w1 V := by rw [← hV]; repeat (first | with_reducible exact Below.refl _ _ | with_reducible refine Below.setCell ?_ (by first | (simp; done) | (simp; omega)) _ | with_reducible refine below_drewN ?_ _ | with_reducible refine Below.alloc ?_ (by first | (simp; done) | (simp; omega)) _ | with_reducible refine Below.drew ?_)
  have hbV := hid (hb1.trans (bV.mono hb1.size))
  have r1V := hid (r1.kept bV)
  have r2V := hid (r2.kept bV)
  obtain ⟨b, hb⟩ : ∃ b, w1.heap.size = b := ⟨_, rfl⟩
  rw [hb] at aV
  have aV' := hid aV
  clear r1 r2 hb1 bV aV hBu
  go_wp2_with fail
  clear hV hb
  refine Calls.mono (hRb.out _) ?_
  rintro e w2 ⟨lo3, lo4, e3, e4, rfl, r3, r4, q2⟩
  have hb2 : Below w.heap.size w w2 := hbV.out.trans (q2.mono hbV.out.size)
  obtain ⟨U, hU⟩ : ∃ U, w2.alloc (.cells #[.slice lo3 m e3, .slice lo4 m e4] 32) = U := ⟨_, rfl⟩
  have aU : At U w2.heap.size #[.slice lo3 m e3, .slice lo4 m e4] 32 := by rw [← hU]; exact At.new w2 _ _
  have bU : Below w2.heap.size w2 U := by rw [← hU]; repeat (first | with_reducible exact Below.refl _ _ | with_reducible refine Below.setCell ?_ (by first | (simp; done) | (simp; omega)) _ | with_reducible refine below_drewN ?_ _ | with_reducible refine Below.alloc ?_ (by first | (simp; done) | (simp; omega)) _ | with_reducible refine Below.drew ?_)
  have hbU := hid (hb2.trans (bU.mono hb2.size))
  have r1U := hid ((r1V.out.kept q2).kept bU)
  have r2U := hid ((r2V.out.kept q2).kept bU)
  have r3U := hid (r3.kept bU)
  have r4U := hid (r4.kept bU)
  have aU2 := hid ((aV'.out.keptAll q2).keptAll bU)
  obtain ⟨b', hb'⟩ : ∃ b, w2.heap.size = b := ⟨_, rfl⟩
  rw [hb'] at aU
  obtain ⟨c0, c1, -, -⟩ := aU.factsL
  obtain ⟨d0, d1, -, -⟩ := aU2.out.factsL
  have eE : (E == E) = true := by simp
  clear r3 r4 q2 bU aU hb2 hbV r1V r2V aV' hRb
  go_wp2_with fail
  clear hU hb'
  refine Calls.mono (sameLv_calls m s.size hm hn.out lo1 lo2 lo3 lo4 e1 e2 e3 e4 F G _ r1U.out r2U.out r3U.out r4U.out) ?_
  rintro e w3 ⟨rfl, q3⟩
  have hb3 := hid (hbU.out.trans (q3.mono hbU.out.size))
  clear q3 hbU r1U r2U r3U r4U c0 c1 d0 d1 aU2
  go_wp2_with fail
  refine Calls.mono (hAw.out _ hb3.out) ?_
  rintro e w5 ⟨rfl, q5⟩
  have hb5 := hid (hb3.out.trans (q5.mono hb3.out.size))
  clear q5 hb3
  go_wp2
  go_ret
  exact ⟨rfl, hb5.out⟩
end Go.Proofs.YtjccgiadmnogeaaDoor
