/-
  What quarryref08.Minify answers.
-/
import Derived.Test.YtmgbgphlkhkldaaDoorRefM2
import Derived.Test.YtmgbgphlkhkldaaDoorMinMath
import Derived.Lib.AppendStr
import Derived.Lib.BufferRead
import Derived.Laws.IdiomStrings
namespace Go.Proofs.YtmgbgphlkhkldaaDoor
open Go.RowKit Go.Shelf

/-- The bytes as cells. -/
def by8 (l : List UInt8) : List Value := l.map fun x => Value.int .u8 ((x.toNat : Nat) : Int)
theorem by8_snoc (l : List UInt8) (x : UInt8) : by8 (l ++ [x]) = by8 l ++ [.int .u8 ((x.toNat : Nat) : Int)] := by simp [by8]
/-- The text of a row of bytes. -/
theorem conv_row8 {w : World} {B : Nat} {v : Value} {l : List UInt8} (h : w.ownsRow B 5 1 v l.length (by8 l)) : (convert 44 9 v).run Tryd.prog w = .ok (.string ⟨l.toArray⟩) w := by
  rcases h.2 with ⟨rfl, h0⟩ | ⟨g, cap, cur, rfl, hb, hgb, h3⟩
  · rw [List.eq_nil_of_length_eq_zero h0]
    exact Lib.run_convert_nil_bytes w 44 9 5 0 Tryd.underlying44 Tryd.underlying5 Tryd.underlying9
  · exact run_convert_bytes_back (P := Tryd.prog) w 44 9 5 ⟨g, 0, none⟩ cap l Tryd.underlying44 Tryd.underlying5 Tryd.underlying9 (fun j hj => by
      exact h.cells (g := g) rfl j _ (by
        unfold by8
        rw [List.getElem?_map, List.getElem?_eq_getElem hj]
        rfl))
theorem infoU88 : (Tryd.prog.info? 5).map (fun i => (i.zero, i.size, i.bytes)) = some (some (.int .u8 0), 1, 1) := by kernel_rfl

set_option maxRecDepth 10000 in
set_option maxHeartbeats 2000000 in
theorem refMinify_calls (s : ByteArray) (hs : s.size ≤ 1048576) (w : World) :
    Calls Tryd.prog 21 #[.string s] w fun e w' => e = .returned (.string (minS s)) ∧ Below w.heap.size w w' := by
  obtain ⟨i0, hi0, hz0, hz1, hz2⟩ := info_parts infoU88
  go_enter Tryd.func21, Tryd.ntmps21
  go_wp2_with fail
  refine Calls.mono (bytes8_calls s hs w) ?_
  rintro e V ⟨v, rfl, hr, hbV⟩
  obtain ⟨ao, cap, rfl, hK⟩ := kd_row hr
  have hK' := hid hK
  have hB := hid hbV
  have hsi : (s.size : Int) ≤ 1048576 := by omega
  clear hr hK hbV
  go_wp2_with fail
  go_loopw [4, 5] (fun v ii wr => ∃ i : Nat, i ≤ s.size ∧ ii = .int .i64 (i : Int) ∧ wr.ownsRow V.heap.size 5 1 v (minL s i).length (by8 (minL s i)) ∧ Below V.heap.size V wr) (fun _ ii _ => s.size - (intOf ii).toNat)
  case atStart => exact ⟨0, Nat.zero_le _, rfl, World.ownsRow_nil _ _ _ _, Below.refl _ _⟩
  case round =>
    obtain ⟨i, hi, rfl, hown0, hb0⟩ := hrel
    have hown := hid hown0
    have hbW := hid hb0
    have hzW := hb0.size
    clear hown0 hb0
    by_cases hlt : i < s.size
    · have hli : (i : Int) < (s.size : Int) := by omega
      obtain ⟨g, rfl, -, hc⟩ := (hK'.out.kept (Nat.le_refl _) hbW.out) i hlt
      obtain ⟨d, hd⟩ : ∃ d, Hid (kdS s i = d) := ⟨_, rfl⟩
      rw [hd.out] at hc
      have hbl := kd_blank hlt
      rw [hd.out] at hbl
      have hil : (minL s i).length ≤ i := by rw [minL_len]; exact jS_le s i
      by_cases d2 : d = 2
      · subst d2
        have hn : Hid (minL s (i + 1) = minL s i) := minL_t (hbl.1 rfl)
        clear hbl hd
        go_wp2
        go_roundw
        case rel => exact ⟨i + 1, by omega, by simp, by rw [hn.out]; exact hown.out, hbW.out⟩
        case measure => simp [intOf]; omega
      · have d2' : ((d : Int) != 2) = true := by simp; omega
        have hbf : blankS s i = false := by
          cases hh : blankS s i
          · rfl
          · exact absurd (hbl.2 hh) d2
        obtain ⟨x, hxe⟩ : ∃ x, s[i].toNat = x := ⟨_, rfl⟩
        have hn : Hid (minL s (i + 1) = minL s i ++ [s[i]]) := by
          show _ = _
          rw [minL_f hbf, Array.getElem?_eq_getElem (show i < s.data.size from hlt)]
          rfl
        have hxe' := hid hxe
        obtain ⟨L, hL⟩ : ∃ L, Hid ((minL s i).length = L) := ⟨_, rfl⟩
        rw [hL.out] at hown hil
        clear hbl hd hbf
        go_wp2_with (first
          | (at_builtin; refine wpList_append_own _ rfl _ _ 44 rfl V.heap.size 5 i0 (.int .u8 0) 1 1 Tryd.underlying44 hi0 hz0 hz1 hz2 rfl (by decide) _ _ _ rfl (World.ownsRow.alloc hown.out _) ⟨wr.heap.size, 0, none⟩ 1 1 [.int .u8 (x : Int)] rfl rfl (fun j u hj => by match j, hj with | 0, hj => simp at hj; subst hj; simp [Addr.add]) (fun u hu => by simp at hu; subst hu; rfl) (by unfold maxLen; omega) (by omega) (by simp; omega) ?_)
          | go_in)
        intro v' wn hown1 hgrow _
        have hbn := (hbW.out.alloc hbW.out.size (.cells #[.int .u8 (x : Int)] 5)).grown hgrow (by simp; omega) (fun b e => by have := (hown.out.lt b e).1; omega)
        have hown2 : Hid (wn.ownsRow V.heap.size 5 1 v' (minL s (i + 1)).length (by8 (minL s (i + 1)))) := by
          show World.ownsRow _ _ _ _ _ _ _
          rw [hn.out, by8_snoc, List.length_append, hL.out, hxe'.out]
          exact hown1
        clear hgrow hown1 hown
        go_wp2
        go_roundw
        case rel => exact ⟨i + 1, by omega, by simp, hown2.out, hbn⟩
        case measure => simp [intOf]; omega
    · obtain rfl : i = s.size := by omega
      have hcv := conv_row8 hown.out
      go_wp2
      go_ret
      exact ⟨rfl, hB.out.trans (hbW.out.mono hB.out.size)⟩
end Go.Proofs.YtmgbgphlkhkldaaDoor
