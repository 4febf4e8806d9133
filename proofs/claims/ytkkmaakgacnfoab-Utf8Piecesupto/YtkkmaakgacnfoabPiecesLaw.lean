/-
  Utf8Pieces: however a text is cut, a Scan to which the pieces come says what Bad says of the whole.
-/
import Derived.Test.YtkkmaakgacnfoabTextsKit
import Derived.Test.YtkkmaakgacnfoabUtf8Scan
import Derived.Test.YtkkmaakgacnfoabRowsKeep
namespace Go.Proofs.Ytkkmaakgacnfoab
open Go.RowKit

/-- Ahead of the piece number i: the Scan has what all of them together make, the row of bytes is they. -/
def PieceI (ss : List ByteArray) (w : World) (i : Nat) (v : Value) (each : Bool) (wk : Nat) (wr : World) : Prop :=
  i ≤ ss.length ∧ At wr w.heap.size (stC (runS s5 (byts (catL (ss.take i))))) 42 ∧ wr.ownsRow (w.heap.size + 1) 5 1 v (catL (ss.take i)).size (Lib.strCells (catL (ss.take i))) ∧
    (each = true → badOf (catL (ss.take i)) = -1) ∧ wk ≤ i * 1048576 ∧ Below w.heap.size w wr ∧ w.heap.size + 1 ≤ wr.heap.size

theorem piece_kept {ss : List ByteArray} {w wr wq : World} {i wk : Nat} {v : Value} {each : Bool} (h : PieceI ss w i v each wk wr) (hb : Below wr.heap.size wr wq) : PieceI ss w i v each wk wq :=
  ⟨h.1, h.2.1.keptAll hb, row_below h.2.2.1 hb, h.2.2.2.1, h.2.2.2.2.1, h.2.2.2.2.2.1.trans (hb.mono (by have := h.2.2.2.2.2.2; omega)), Nat.le_trans h.2.2.2.2.2.2 hb.size⟩
/-- A row that lies from b + 1 on is kept where only b is turned. -/
theorem row_only {w w' : World} {b n : Nat} {v : Value} {xs : List Value} (h : w.ownsRow (b + 1) 5 1 v n xs) (hO : Only b w w') : w'.ownsRow (b + 1) 5 1 v n xs := by
  obtain ⟨h1, h2 | ⟨g, cap, cur, h3, h4, h5, h6⟩⟩ := h
  · exact ⟨h1, .inl h2⟩
  · exact ⟨h1, .inr ⟨g, cap, cur, h3, h4, (hO.2.2 g (by omega)).trans h5, h6⟩⟩
theorem row_slice {w : World} {B n : Nat} {v : Value} {xs : List Value} (h : w.ownsRow B 5 1 v n xs) : ∃ ao cap, v = .slice ao n cap := by
  obtain ⟨_, ⟨rfl, rfl⟩ | ⟨g, cap, cur, rfl, _⟩⟩ := h
  · exact ⟨none, 0, rfl⟩
  · exact ⟨_, cap, rfl⟩
def badF_ok (z : ByteArray) : Prop := z.size < 9223372036854775807

set_option maxRecDepth 10000 in
set_option maxHeartbeats 4000000 in
theorem utf8Pieces_walk (ao : Option Addr) (cap : Nat) (ss : List ByteArray) (hb : sizesS ss ≤ 1048576) (w : World) (hin : TextsOf w ao ss) :
    Calls Try.prog 4 #[.slice ao ss.length cap] w fun e w' => e = .returned (.bool true) ∧ Below w.heap.size w w' := by
  have e1 : badOf ⟨#[255]⟩ = 0 := by decide
  have hin' := hid hin
  have hb' := hid hb
  have hlen := hid (len_sizesS ss)
  clear hin hb
  go_enter Try.func4, Try.ntmps4
  go_wp2_with fail
  refine (newS_calls _).mono ?_
  rintro e w1 ⟨rfl, hw1⟩
  have hA1 : At w1 w.heap.size (stC s5) 42 := by rw [hw1]; exact At.new _ _ _
  have hB1 : Below w.heap.size w w1 := by rw [hw1]; exact (Below.refl _ _).alloc (Nat.le_refl _) _
  have hS1 : w.heap.size + 1 ≤ w1.heap.size := by rw [hw1]; simp
  have hA1' := hid hA1
  have hB1' := hid hB1
  have hS1' := hid hS1
  clear hw1 hA1 hB1 hS1
  go_wp2_with fail
  refine (badF_calls ⟨#[255]⟩ (by decide) _).mono ?_
  rintro e w2 ⟨rfl, hb2⟩
  rw [e1]
  have h0 := hid (show PieceI ss w 0 (.slice none 0 0) true 0 w2 from ⟨Nat.zero_le _, hA1'.out.keptAll hb2, World.ownsRow_nil _ _ _ _, fun _ => rfl, Nat.zero_le _, hB1'.out.trans (hb2.mono hB1'.out.size), Nat.le_trans hS1'.out hb2.size⟩)
  clear hb2 e1 hA1' hB1' hS1'
  generalize hb0 : w.heap.size = b at *
  go_wp2
  go_loopw [4, 5, 6, 7] (fun v ee kk ii wr => ∃ (i wk : Nat) (each : Bool), ii = .int .i64 (i : Int) ∧ kk = .int .i64 (wk : Int) ∧ ee = .bool each ∧ PieceI ss w i v each wk wr) (fun _ _ _ ii _ => ss.length - (intOf ii).toNat)
  case atStart => exact ⟨0, 0, true, rfl, rfl, rfl, h0.out⟩
  case round =>
    clear h0
    obtain ⟨i, wk, each, rfl, rfl, rfl, hI⟩ := hrel
    obtain ⟨hil, hA, hR, hE, hwk, hB, hS⟩ := hI
    rw [hb0] at hA hR hB hS
    have hcs := hid (catL_size ss i)
    by_cases hlt : i < ss.length
    · have hli : (i : Int) < (ss.length : Int) := by omega
      have hi2 : (i : Int) ≤ 1048576 := by have := hlen.out; have := hb'.out; omega
      obtain ⟨z, hz⟩ : ∃ z, ss[i]? = some z := ⟨_, List.getElem?_eq_getElem hlt⟩
      obtain ⟨cb, off, rfl, hcb, hc⟩ := hin'.out i z hz
      have hcat := hid (catL_take ss i z hz)
      have hcs1 := catL_size ss (i + 1)
      rw [hcat.out, ByteArray.size_append] at hcs1
      have hcs1' := hid hcs1
      rw [hb0] at hcb
      have hc1 : wr.cell? ⟨cb, off + i, none⟩ = some (.string z) := (hB.cell (p := ⟨cb, off + i, none⟩) hcb).trans hc
      have hA' := hid hA
      have hR' := hid hR
      have hE' := hid hE
      have hB' := hid hB
      have hS' := hid hS
      have hwk' := hid hwk
      have hcb' := hid hcb
      have hc0 := hid hc
      clear hA hR hE hB hS hz hc hcb hcs1 hwk
      generalize catL (ss.take i) = A at *
      go_wp2_with (first
        | (at_builtin; refine wpList_append_str rfl _ _ rfl (b + 1) _ A z rfl rfl hR'.out ?c1 ?c2 ?_)
        | go_in)
      case c1 => have := hcs1'.out; have := hb'.out; omega
      case c2 => exact hS'.out
      · intro v' w3 hown hg
        have hA3 := hid (show At w3 b (stC (runS s5 (byts A))) 42 from (hg.block b hA'.out.lt (fun e => by have := (hR'.out.lt b e.symm).1; omega)).trans hA'.out)
        have hB3 := hid (hB'.out.grown hg (by have := hS'.out; omega) (fun k e => by have := (hR'.out.lt k e).1; omega))
        have hS3 := hid (Nat.le_trans hS'.out hg.size)
        have hR3 := hid (show w3.ownsRow (b + 1) 5 1 v' (A ++ z).size (Lib.strCells (A ++ z)) by rw [ByteArray.size_append]; exact hown)
        clear hown hg hA' hB' hS' hR' hc1
        cases each with
        | false =>
          obtain ⟨ev, hev⟩ : ∃ ev : Bool, ev = false := ⟨_, rfl⟩
          rw [← hev]
          have hev2 := hid (show ev = true → badOf (A ++ z) = -1 from fun k => by rw [hev] at k; cases k)
          have hAW := hA3
          have hBW := hB3
          have hSW := hS3
          have hRW := hR3
          subst hev
          generalize w3 = W at *
          have hc2 : W.cell? ⟨cb, off + i, none⟩ = some (.string z) := ((hBW.out.cell (p := ⟨cb, off + i, none⟩) hcb'.out).trans hc0.out)
          go_wp2_with fail
          refine (feed_calls b 42 (runS s5 (byts A)) z W hAW.out (runS_left (by decide) _) (by have := runS_good s5 (byts A); rw [byts_length] at this; have e : s5.good = 0 := rfl; have := hcs1'.out; have := hb'.out; omega)).mono ?_
          rintro e W5 ⟨rfl, hO5, hA5⟩
          rw [← runS_append, ← byts_append] at hA5 ⊢
          have hA5' := hid hA5
          have hB5 := hid (hBW.out.trans (hO5.below (Nat.le_refl _)))
          have hR5 := hid (row_only hRW.out hO5)
          have hS5 := hid (show b + 1 ≤ W5.heap.size by rw [hO5.2.1]; exact hSW.out)
          clear hO5 hA5 hc2
          have hfed := fed_eq (A ++ z)
          have hbI := hid (show badI (runS s5 (byts (A ++ z))) = badOf (A ++ z) from rfl)
          have hba := hid (bad_at (A ++ z))
          have hcv := hid (conv_row hR5.out)
          have hsz := hid (show (A ++ z).size ≤ 1048576 by rw [ByteArray.size_append]; have := hcs1'.out; have := hb'.out; omega)
          have hS0 := hid (show (A ++ z).size = (catL (ss.take (i + 1))).size by rw [hcat.out])
          have hslice := hid (row_slice hR5.out)
          have hfin := hid (show PieceI ss w (i + 1) v' false (wk + (A ++ z).size) W5 from ⟨hlt, by rw [hcat.out, hb0]; exact hA5'.out, by rw [hcat.out, hb0]; exact hR5.out, by rw [hcat.out]; exact hev2.out, by have := hwk'.out; have := hsz.out; omega, by rw [hb0]; exact hB5.out, by rw [hb0]; exact hS5.out⟩)
          generalize (A ++ z) = AZ at *
          obtain ⟨S, hS⟩ : ∃ S : Nat, AZ.size = S := ⟨_, rfl⟩
          rw [hS] at hfed hsz hba hslice hfin hS0
          obtain ⟨ao2, cap2, hv'⟩ := hslice.out
          subst hv'
          generalize hfd : (!(runS s5 (byts AZ)).wrong) = fed at *
          have hwk2 : wk + S ≤ 4611686018427387904 := by have := hwk'.out; have := hsz.out; have := hlen.out; have := hb'.out; have : i * 1048576 ≤ 1048576 * 1048576 := Nat.mul_le_mul (by omega) (Nat.le_refl _); omega
          have hwki : (wk : Int) + (S : Int) ≤ 4611686018427387904 := by omega
          have hBz : badF_ok AZ := by have := hsz.out; unfold badF_ok; omega
          have hBz' := hid hBz
          have hS' := hid hS
          clear hfd hS hBz hwk2
          by_cases hbig : 4194304 < wk + S
          · have hbigi : (4194304 : Int) < (wk : Int) + (S : Int) := by omega
            clear hfed
            go_wp2
            go_roundw
            case rel => exact ⟨i + 1, wk + S, false, by simp, by simp, rfl, hfin.out⟩
            case measure => simp [intOf]; omega
          · have hbigi : ¬ (4194304 : Int) < (wk : Int) + (S : Int) := by omega
            have hcv2 := hcv.out
            have hfed' := hid hfed
            clear hfed hbig
            go_wp2_with fail
            refine (badF_calls AZ hBz'.out _).mono ?_
            rintro e W6 ⟨rfl, hb6⟩
            have hA6 := hid (hA5'.out.keptAll hb6)
            have hfin6 := hid (piece_kept hfin.out hb6)
            clear hb6 hcv2
            rcases hba.out with hm | ⟨n, hn, -, -, -⟩
            · rw [hm] at hfed' hbI ⊢
              obtain rfl : fed = true := hfed'.out
              go_wp2_with fail
              refine (end_calls b 42 _ W6 hA6.out).mono ?_
              rintro e W7 ⟨rfl, hw7⟩
              rw [hw7, hbI.out]
              clear hw7
              go_wp2
              go_roundw
              case rel => exact ⟨i + 1, wk + S, false, by simp, by simp, rfl, hfin6.out⟩
              case measure => simp [intOf]; omega
            · have hn1 : ¬ ((n : Int) = -1) := by omega
              rw [hn] at hfed' hbI ⊢
              by_cases hnS : n = S
              · have hSn : S = n := hnS.symm
                subst hSn
                obtain rfl : fed = true := by rw [hfed'.out]; simp
                go_wp2_with fail
                refine (end_calls b 42 _ W6 hA6.out).mono ?_
                rintro e W7 ⟨rfl, hw7⟩
                rw [hw7, hbI.out]
                clear hw7
                go_wp2
                go_roundw
                case rel => exact ⟨i + 1, wk + S, false, by simp, by simp, rfl, hfin6.out⟩
                case measure => simp [intOf]; omega
              · have hnSi : ¬ ((n : Int) = (S : Int)) := by omega
                obtain rfl : fed = false := by rw [hfed'.out]; simp [hn1, hnSi]
                have hr1 : ((n : Int) == -1) = false := by simp
                have hr2 : ((n : Int) == (S : Int)) = false := by simpa using hnSi
                go_wp2_with fail
                refine (end_calls b 42 _ W6 hA6.out).mono ?_
                rintro e W7 ⟨rfl, hw7⟩
                rw [hw7, hbI.out]
                clear hw7
                go_wp2
                go_roundw
                case rel => exact ⟨i + 1, wk + S, false, by simp, by simp, rfl, hfin6.out⟩
                case measure => simp [intOf]; omega
        | true =>
          have hc3 : w3.cell? ⟨cb, off + i, none⟩ = some (.string z) := ((hB3.out.cell (p := ⟨cb, off + i, none⟩) hcb'.out).trans hc0.out)
          go_wp2_with fail
          refine (badF_calls z (by have := hcs1'.out; have := hb'.out; omega) _).mono ?_
          rintro e W ⟨rfl, hbW⟩
          have hAW := hid (hA3.out.keptAll hbW)
          have hBW := hid (hB3.out.trans (hbW.mono (by have := hS3.out; omega)))
          have hSW := hid (Nat.le_trans hS3.out hbW.size)
          have hRW := hid (row_below hR3.out hbW)
          obtain ⟨ev, hev⟩ : ∃ ev : Bool, (badOf z == -1) = ev := ⟨_, rfl⟩
          have hev2 := hid (show ev = true → badOf (A ++ z) = -1 from fun k => by
            rw [k] at hev
            exact bad_cat (hE'.out (by first | rfl | trivial)) (by simpa using hev))
          clear hbW hA3 hB3 hS3 hR3 hc3
          have hc2 : W.cell? ⟨cb, off + i, none⟩ = some (.string z) := ((hBW.out.cell (p := ⟨cb, off + i, none⟩) hcb'.out).trans hc0.out)
          go_wp2_with fail
          refine (feed_calls b 42 (runS s5 (byts A)) z W hAW.out (runS_left (by decide) _) (by have := runS_good s5 (byts A); rw [byts_length] at this; have e : s5.good = 0 := rfl; have := hcs1'.out; have := hb'.out; omega)).mono ?_
          rintro e W5 ⟨rfl, hO5, hA5⟩
          rw [← runS_append, ← byts_append] at hA5 ⊢
          have hA5' := hid hA5
          have hB5 := hid (hBW.out.trans (hO5.below (Nat.le_refl _)))
          have hR5 := hid (row_only hRW.out hO5)
          have hS5 := hid (show b + 1 ≤ W5.heap.size by rw [hO5.2.1]; exact hSW.out)
          clear hO5 hA5 hc2
          have hfed := fed_eq (A ++ z)
          have hbI := hid (show badI (runS s5 (byts (A ++ z))) = badOf (A ++ z) from rfl)
          have hba := hid (bad_at (A ++ z))
          have hcv := hid (conv_row hR5.out)
          have hsz := hid (show (A ++ z).size ≤ 1048576 by rw [ByteArray.size_append]; have := hcs1'.out; have := hb'.out; omega)
          have hS0 := hid (show (A ++ z).size = (catL (ss.take (i + 1))).size by rw [hcat.out])
          have hslice := hid (row_slice hR5.out)
          have hfin := hid (show PieceI ss w (i + 1) v' ev (wk + (A ++ z).size) W5 from ⟨hlt, by rw [hcat.out, hb0]; exact hA5'.out, by rw [hcat.out, hb0]; exact hR5.out, by rw [hcat.out]; exact hev2.out, by have := hwk'.out; have := hsz.out; omega, by rw [hb0]; exact hB5.out, by rw [hb0]; exact hS5.out⟩)
          generalize (A ++ z) = AZ at *
          obtain ⟨S, hS⟩ : ∃ S : Nat, AZ.size = S := ⟨_, rfl⟩
          rw [hS] at hfed hsz hba hslice hfin hS0
          obtain ⟨ao2, cap2, hv'⟩ := hslice.out
          subst hv'
          generalize hfd : (!(runS s5 (byts AZ)).wrong) = fed at *
          have hwk2 : wk + S ≤ 4611686018427387904 := by have := hwk'.out; have := hsz.out; have := hlen.out; have := hb'.out; have : i * 1048576 ≤ 1048576 * 1048576 := Nat.mul_le_mul (by omega) (Nat.le_refl _); omega
          have hwki : (wk : Int) + (S : Int) ≤ 4611686018427387904 := by omega
          have hBz : badF_ok AZ := by have := hsz.out; unfold badF_ok; omega
          have hBz' := hid hBz
          have hS' := hid hS
          clear hfd hS hBz hwk2
          by_cases hbig : 4194304 < wk + S
          · have hbigi : (4194304 : Int) < (wk : Int) + (S : Int) := by omega
            clear hfed
            go_wp2
            go_roundw
            case rel => exact ⟨i + 1, wk + S, ev, by simp, by simp, rfl, hfin.out⟩
            case measure => simp [intOf]; omega
          · have hbigi : ¬ (4194304 : Int) < (wk : Int) + (S : Int) := by omega
            have hcv2 := hcv.out
            have hfed' := hid hfed
            clear hfed hbig
            go_wp2_with fail
            refine (badF_calls AZ hBz'.out _).mono ?_
            rintro e W6 ⟨rfl, hb6⟩
            have hA6 := hid (hA5'.out.keptAll hb6)
            have hfin6 := hid (piece_kept hfin.out hb6)
            clear hb6 hcv2
            rcases hba.out with hm | ⟨n, hn, -, -, -⟩
            · rw [hm] at hfed' hbI ⊢
              obtain rfl : fed = true := hfed'.out
              go_wp2_with fail
              refine (end_calls b 42 _ W6 hA6.out).mono ?_
              rintro e W7 ⟨rfl, hw7⟩
              rw [hw7, hbI.out]
              clear hw7
              go_wp2
              go_roundw
              case rel => exact ⟨i + 1, wk + S, ev, by simp, by simp, rfl, hfin6.out⟩
              case measure => simp [intOf]; omega
            · have hn1 : ¬ ((n : Int) = -1) := by omega
              rw [hn] at hfed' hbI ⊢
              by_cases hnS : n = S
              · have hSn : S = n := hnS.symm
                subst hSn
                obtain rfl : fed = true := by rw [hfed'.out]; simp
                go_wp2_with fail
                refine (end_calls b 42 _ W6 hA6.out).mono ?_
                rintro e W7 ⟨rfl, hw7⟩
                rw [hw7, hbI.out]
                clear hw7
                go_wp2
                go_roundw
                case rel => exact ⟨i + 1, wk + S, ev, by simp, by simp, rfl, hfin6.out⟩
                case measure => simp [intOf]; omega
              · have hnSi : ¬ ((n : Int) = (S : Int)) := by omega
                obtain rfl : fed = false := by rw [hfed'.out]; simp [hn1, hnSi]
                have hr1 : ((n : Int) == -1) = false := by simp
                have hr2 : ((n : Int) == (S : Int)) = false := by simpa using hnSi
                go_wp2_with fail
                refine (end_calls b 42 _ W6 hA6.out).mono ?_
                rintro e W7 ⟨rfl, hw7⟩
                rw [hw7, hbI.out]
                clear hw7
                go_wp2
                go_roundw
                case rel => exact ⟨i + 1, wk + S, ev, by simp, by simp, rfl, hfin6.out⟩
                case measure => simp [intOf]; omega
    · obtain rfl : i = ss.length := by omega
      rw [List.take_length] at hA hR hE
      have hA' := hid hA
      have hB' := hid hB
      have hE' := hid hE
      have hcv := hid (conv_row hR)
      have hsz := hid (show (catL ss).size ≤ 1048576 by have := hcs.out; rw [List.take_length] at this; have := hb'.out; omega)
      have hba := hid (bad_at (catL ss))
      clear hA hR hE hB hS hwk
      generalize catL ss = A at *
      have hcv2 := hcv.out
      go_wp2_with fail
      refine (badF_calls A (by have := hsz.out; omega) _).mono ?_
      rintro e W6 ⟨rfl, hb6⟩
      have hA6 := hid (hA'.out.keptAll hb6)
      have hB6 := hid (hB'.out.trans (hb6.mono (by have := hB'.out.size; omega)))
      have hbI := hid (show badI (runS s5 (byts A)) = badOf A from rfl)
      clear hb6 hcv2
      go_wp2_with fail
      refine (end_calls b 42 _ W6 hA6.out).mono ?_
      rintro e W7 ⟨rfl, hw7⟩
      rw [hw7, hbI.out]
      clear hw7
      cases each with
      | false =>
        go_wp2
        go_ret
        exact ⟨by simp, by rw [hb0]; exact hB6.out⟩
      | true =>
        rw [hE'.out (by first | rfl | trivial)]
        go_wp2
        go_ret
        exact ⟨by simp, by rw [hb0]; exact hB6.out⟩
end Go.Proofs.Ytkkmaakgacnfoab
