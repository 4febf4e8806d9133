/-
  What quarrylaw05.firsts answers: true.
-/
import Derived.Test.YtkkmaakgacnfoaaUtf8Rows
import Derived.Test.YtkkmaakgacnfoaaUtf8Read
import Derived.Test.YtkkmaakgacnfoaaUtf8Goes
namespace Go.Proofs.Ytkkmaakgacnfoaa
open Go.RowKit

/-- What Bad says of one byte. -/
def oneB (x : Nat) : Int := if x < 128 then -1 else if 194 ≤ x ∧ x ≤ 244 then 1 else 0
/-- What Bad says of two bytes, of which the first one begins a longer form. -/
def twoB (x y : Nat) : Int := if secLo x ≤ y ∧ y ≤ secHi x then (if x < 224 then -1 else 2) else 1
theorem one_bad (x : Nat) : badI (runS s5 [x]) = oneB x := by
  have h := stp_first (q := s5.q) (x := x) rfl
  unfold oneB
  by_cases h1 : x < 128
  · rw [if_pos h1, runS_cons, tk_some (s := s5) rfl (h.1 h1)]; rfl
  · rw [if_neg h1]
    by_cases h2 : 194 ≤ x ∧ x ≤ 244
    · rw [if_pos h2]
      by_cases a : x ≤ 223
      · rw [runS_cons, tk_some (s := s5) rfl (h.2.1 h2.1 a)]; rfl
      · by_cases b : x ≤ 239
        · rw [runS_cons, tk_some (s := s5) rfl (h.2.2.1 (by omega) b)]; rfl
        · rw [runS_cons, tk_some (s := s5) rfl (h.2.2.2 (by omega) (by omega))]; rfl
    · rw [if_neg h2]
      have hs : stp s5.q x = none := by
        unfold stp begQ
        rw [if_pos (show s5.q.left = 0 from rfl)]
        by_cases a : 244 < x
        · rw [if_pos a]
        · rw [if_neg a, if_neg (by omega), if_neg (by omega), if_neg (by omega), if_pos (by omega)]
      rw [runS_cons, tk_none (s := s5) rfl hs]; rfl
theorem two_bad (x y : Nat) (h1 : 194 ≤ x) (h2 : x ≤ 244) : badI (runS s5 [x, y]) = twoB x y := by
  have h := stp_first (q := s5.q) (x := x) rfl
  obtain ⟨L, hL, hs⟩ : ∃ L, (L = 1 ∧ x < 224 ∨ 2 ≤ L ∧ ¬ x < 224) ∧ stp s5.q x = some ⟨L, secLo x, secHi x⟩ := by
    by_cases a : x ≤ 223
    · exact ⟨1, .inl ⟨rfl, by omega⟩, h.2.1 h1 a⟩
    · by_cases b : x ≤ 239
      · exact ⟨2, .inr ⟨by omega, by omega⟩, h.2.2.1 (by omega) b⟩
      · exact ⟨3, .inr ⟨by omega, by omega⟩, h.2.2.2 (by omega) (by omega)⟩
  rw [runS_cons, tk_some (s := s5) rfl hs]
  unfold twoB
  by_cases hy : secLo x ≤ y ∧ y ≤ secHi x
  · rw [if_pos hy, runS_cons, tk_some (s := ⟨s5.good + 1, false, ⟨L, secLo x, secHi x⟩⟩) rfl (stp_next (q := ⟨L, secLo x, secHi x⟩) (show L ≠ 0 by omega) hy.1 hy.2), runS_nil]
    rcases hL with ⟨rfl, hx⟩ | ⟨hL, hx⟩
    · rw [if_pos hx]; rfl
    · rw [if_neg hx]
      unfold badI
      rw [if_pos (.inr (by show 0 < L - 1; omega))]
      rfl
  · rw [if_neg hy]
    have hn : stp ⟨L, secLo x, secHi x⟩ y = none := by
      unfold stp
      rw [if_neg (show ¬ L = 0 by omega), if_pos (by show y < secLo x ∨ secHi x < y; omega)]
    rw [runS_cons, tk_none (s := ⟨s5.good + 1, false, ⟨L, secLo x, secHi x⟩⟩) rfl hn]
    rfl
/-- The text of a row of bytes that was just laid. -/
theorem conv_new (w : World) (l : List Nat) (hl : ∀ x ∈ l, x < 256) (k : Nat) (hk : k = l.length) :
    (convert 27 9 (.slice (some ⟨w.heap.size, 0, none⟩) k k)).run Try.prog (w.alloc (.cells (l.map fun (x : Nat) => Value.int .u8 (x : Int)).toArray 5)) = .ok (.string (mkS l)) (w.alloc (.cells (l.map fun (x : Nat) => Value.int .u8 (x : Int)).toArray 5)) := by
  subst hk
  have h := run_convert_bytes_back (P := Try.prog) (w.alloc (.cells (l.map fun (x : Nat) => Value.int .u8 (x : Int)).toArray 5)) 27 9 5 ⟨w.heap.size, 0, none⟩ l.length (l.map UInt8.ofNat) Try.underlying27 Try.underlying5 Try.underlying9 (fun j hj => by
    have a := (At.new w (l.map fun (x : Nat) => Value.int .u8 (x : Int)).toArray 5).cell j
    have e : (⟨w.heap.size, 0, none⟩ : Addr).add j = ⟨w.heap.size, j, none⟩ := by by_cases h : j = 0 <;> simp [Addr.add, h]
    have hj' : j < l.length := by simpa using hj
    have hx := hl l[j] (List.getElem_mem hj')
    rw [e, a]
    simp [List.getElem?_eq_getElem hj', UInt8.toNat_ofNat']
    omega)
  rw [List.length_map] at h
  exact h

set_option maxRecDepth 10000 in
set_option maxHeartbeats 4000000 in
theorem firsts_calls (w : World) : Calls Try.prog 22 #[] w fun e w' => e = .returned (.bool true) ∧ Below w.heap.size w w' := by
  go_enter Try.func22, Try.ntmps22
  go_wp2
  go_loopw [1] (fun xx wr => ∃ x : Nat, x ≤ 256 ∧ xx = .int .i64 (x : Int) ∧ Hid (Below w.heap.size w wr)) (fun xx _ => 256 - (intOf xx).toNat)
  case atStart => exact ⟨0, by omega, rfl, hid (Below.refl _ _)⟩
  case round =>
    obtain ⟨x, hx, rfl, hB⟩ := hrel
    by_cases hlt : x < 256
    · have hli : (x : Int) < 256 := by omega
      have hxm : (x : Int) % 256 = (x : Int) := by omega
      have hcv := conv_new wr [x] (by simpa using hlt) 1 rfl
      simp only [List.map_cons, List.map_nil] at hcv
      obtain ⟨S, hS⟩ : ∃ S, mkS [x] = S := ⟨_, rfl⟩
      rw [hS] at hcv
      have hSb := hid (show badOf S = oneB x by rw [← hS]; unfold badOf; rw [byts_mkS (by simpa using hlt)]; exact one_bad x)
      have hSs := hid (show S.size < 9223372036854775807 by rw [← hS, mkS_size]; simp)
      clear hS
      have hB0 := hid (show Below w.heap.size w (wr.alloc (.cells #[.int .u8 (x : Int)] 5)) from hB.out.alloc hB.out.size _)
      have hcases : (x < 128 ∧ oneB x = -1) ∨ (128 ≤ x ∧ x < 194 ∧ oneB x = 0) ∨ (194 ≤ x ∧ x ≤ 244 ∧ oneB x = 1) ∨ (244 < x ∧ oneB x = 0) := by
        unfold oneB
        by_cases a : x < 128
        · rw [if_pos a]; omega
        · rw [if_neg a]
          by_cases b : 194 ≤ x ∧ x ≤ 244
          · rw [if_pos b]; omega
          · rw [if_neg b]; omega
      rcases hcases with ⟨h1, h2⟩ | ⟨h1, h2, h3⟩ | ⟨h1, h2, h3⟩ | ⟨h1, h2⟩
      · have a1 : (x : Int) < 128 := by omega
        have a2 : ¬ (194 : Int) ≤ (x : Int) := by omega
        rw [h2] at hSb
        clear h1 h2 hB
        go_wp2_with fail
        refine (badF_calls S hSs.out _).mono ?_
        rintro e w1 ⟨rfl, hb⟩
        rw [hSb.out]
        have hB1 := hid (hB0.out.trans (hb.mono hB0.out.size))
        clear hb hcv hB0
        go_wp2
        go_loopw [3] (fun yy wr => yy = .int .i64 0 ∧ Hid (Below w.heap.size w wr)) (fun _ _ => 0)
        case atStart => exact ⟨rfl, hB1⟩
        case round =>
          obtain ⟨rfl, hB2⟩ := hrel
          go_wp2
          go_roundw
          case rel => exact ⟨x + 1, hlt, by simp, hB2⟩
          case measure => simp [intOf]; omega
      · have a1 : ¬ (x : Int) < 128 := by omega
        have a2 : ¬ (194 : Int) ≤ (x : Int) := by omega
        rw [h3] at hSb
        clear h1 h2 h3 hB
        go_wp2_with fail
        refine (badF_calls S hSs.out _).mono ?_
        rintro e w1 ⟨rfl, hb⟩
        rw [hSb.out]
        have hB1 := hid (hB0.out.trans (hb.mono hB0.out.size))
        clear hb hcv hB0
        go_wp2
        go_loopw [3] (fun yy wr => yy = .int .i64 0 ∧ Hid (Below w.heap.size w wr)) (fun _ _ => 0)
        case atStart => exact ⟨rfl, hB1⟩
        case round =>
          obtain ⟨rfl, hB2⟩ := hrel
          go_wp2
          go_roundw
          case rel => exact ⟨x + 1, hlt, by simp, hB2⟩
          case measure => simp [intOf]; omega
      · have a1 : ¬ (x : Int) < 128 := by omega
        have a2 : (194 : Int) ≤ (x : Int) := by omega
        have a3 : (x : Int) ≤ 244 := by omega
        rw [h3] at hSb
        clear h3 hB
        by_cases s0 : x = 224
        · have e : (x : Int) = 224 := by omega
          have hlo : secLo x = 160 := by rw [s0]; rfl
          have hhi : secHi x = 191 := by rw [s0]; rfl
          rw [e] at hcv hB0 ⊢
          have s' := hid s0
          have e' := hid e
          have hl' := hid hlo
          have hh' := hid hhi
          have hlt' := hid hlt
          clear a1 a2 a3 hli hxm s0 e hlo hhi hlt h1 h2
          go_wp2_with fail
          refine (badF_calls S hSs.out _).mono ?_
          rintro e w1 ⟨rfl, hb⟩
          rw [hSb.out]
          have hB1 := hid (hB0.out.trans (hb.mono hB0.out.size))
          clear hb hcv hB0
          go_wp2
          go_loopw [3] (fun yy wr => ∃ y : Nat, y ≤ 256 ∧ yy = .int .i64 (y : Int) ∧ Hid (Below w.heap.size w wr)) (fun yy _ => 256 - (intOf yy).toNat)
          case atStart => exact ⟨0, by omega, rfl, hB1⟩
          case round =>
            clear hB1
            obtain ⟨y, hy, rfl, hB2⟩ := hrel
            by_cases hyl : y < 256
            · have hyi : (y : Int) < 256 := by omega
              have hym : (y : Int) % 256 = (y : Int) := by omega
              have hcv := conv_new wr [x, y] (by intro z hz; simp at hz; have := hlt'.out; omega) 2 rfl
              simp only [List.map_cons, List.map_nil, e'.out] at hcv
              obtain ⟨S2, hS2⟩ : ∃ S, mkS [x, y] = S := ⟨_, rfl⟩
              rw [hS2] at hcv
              have hS2b := hid (show badOf S2 = twoB x y by rw [← hS2]; unfold badOf; rw [byts_mkS (by intro z hz; simp at hz; have := hlt'.out; omega)]; exact two_bad x y (by rw [s'.out]; decide) (by rw [s'.out]; decide))
              have hS2s := hid (show S2.size < 9223372036854775807 by rw [← hS2, mkS_size]; simp)
              clear hS2
              have hB3 := hid (show Below w.heap.size w (wr.alloc (.cells #[.int .u8 224, .int .u8 (y : Int)] 5)) from hB2.out.alloc hB2.out.size _)
              by_cases o0 : y < 160
              · have hv : twoB x y = 1 := by unfold twoB; rw [hl'.out, hh'.out]; rw [if_neg (by have := s'.out; omega)]
                have g0 : ¬ (160 : Int) ≤ (y : Int) := by omega
                rw [hv] at hS2b
                go_wp2_with fail
                refine (badF_calls S2 hS2s.out _).mono ?_
                rintro e w2 ⟨rfl, hb⟩
                rw [hS2b.out]
                have hB4 := hid (hB3.out.trans (hb.mono hB3.out.size))
                clear hb hcv hB3
                go_wp2
                go_roundw
                case rel => exact ⟨y + 1, hyl, by simp, hB4⟩
                case measure => simp [intOf]; omega
              by_cases o1 : 191 < y
              · have hv : twoB x y = 1 := by unfold twoB; rw [hl'.out, hh'.out]; rw [if_neg (by have := s'.out; omega)]
                have g0 : (160 : Int) ≤ (y : Int) := by omega
                have g1 : ¬ (y : Int) ≤ 191 := by omega
                rw [hv] at hS2b
                go_wp2_with fail
                refine (badF_calls S2 hS2s.out _).mono ?_
                rintro e w2 ⟨rfl, hb⟩
                rw [hS2b.out]
                have hB4 := hid (hB3.out.trans (hb.mono hB3.out.size))
                clear hb hcv hB3
                go_wp2
                go_roundw
                case rel => exact ⟨y + 1, hyl, by simp, hB4⟩
                case measure => simp [intOf]; omega
              have hv : twoB x y = 2 := by unfold twoB; rw [hl'.out, hh'.out]; rw [if_pos (by omega), if_neg (by have := s'.out; omega)]
              have g0 : (160 : Int) ≤ (y : Int) := by omega
              have g1 : (y : Int) ≤ 191 := by omega
              rw [hv] at hS2b
              go_wp2_with fail
              refine (badF_calls S2 hS2s.out _).mono ?_
              rintro e w2 ⟨rfl, hb⟩
              rw [hS2b.out]
              have hB4 := hid (hB3.out.trans (hb.mono hB3.out.size))
              clear hb hcv hB3
              go_wp2
              go_roundw
              case rel => exact ⟨y + 1, hyl, by simp, hB4⟩
              case measure => simp [intOf]; omega
            · obtain rfl : y = 256 := by omega
              go_wp2
              go_roundw
              case rel => exact ⟨x + 1, hlt'.out, by have := e'.out; congr 1; omega, hB2⟩
              case measure => simp [intOf]
        by_cases s1 : x = 237
        · have e : (x : Int) = 237 := by omega
          have hlo : secLo x = 128 := by rw [s1]; rfl
          have hhi : secHi x = 159 := by rw [s1]; rfl
          rw [e] at hcv hB0 ⊢
          have s' := hid s1
          have e' := hid e
          have hl' := hid hlo
          have hh' := hid hhi
          have hlt' := hid hlt
          clear a1 a2 a3 hli hxm s1 e hlo hhi hlt h1 h2
          go_wp2_with fail
          refine (badF_calls S hSs.out _).mono ?_
          rintro e w1 ⟨rfl, hb⟩
          rw [hSb.out]
          have hB1 := hid (hB0.out.trans (hb.mono hB0.out.size))
          clear hb hcv hB0
          go_wp2
          go_loopw [3] (fun yy wr => ∃ y : Nat, y ≤ 256 ∧ yy = .int .i64 (y : Int) ∧ Hid (Below w.heap.size w wr)) (fun yy _ => 256 - (intOf yy).toNat)
          case atStart => exact ⟨0, by omega, rfl, hB1⟩
          case round =>
            clear hB1
            obtain ⟨y, hy, rfl, hB2⟩ := hrel
            by_cases hyl : y < 256
            · have hyi : (y : Int) < 256 := by omega
              have hym : (y : Int) % 256 = (y : Int) := by omega
              have hcv := conv_new wr [x, y] (by intro z hz; simp at hz; have := hlt'.out; omega) 2 rfl
              simp only [List.map_cons, List.map_nil, e'.out] at hcv
              obtain ⟨S2, hS2⟩ : ∃ S, mkS [x, y] = S := ⟨_, rfl⟩
              rw [hS2] at hcv
              have hS2b := hid (show badOf S2 = twoB x y by rw [← hS2]; unfold badOf; rw [byts_mkS (by intro z hz; simp at hz; have := hlt'.out; omega)]; exact two_bad x y (by rw [s'.out]; decide) (by rw [s'.out]; decide))
              have hS2s := hid (show S2.size < 9223372036854775807 by rw [← hS2, mkS_size]; simp)
              clear hS2
              have hB3 := hid (show Below w.heap.size w (wr.alloc (.cells #[.int .u8 237, .int .u8 (y : Int)] 5)) from hB2.out.alloc hB2.out.size _)
              by_cases o0 : y < 128
              · have hv : twoB x y = 1 := by unfold twoB; rw [hl'.out, hh'.out]; rw [if_neg (by have := s'.out; omega)]
                have g0 : ¬ (128 : Int) ≤ (y : Int) := by omega
                rw [hv] at hS2b
                go_wp2_with fail
                refine (badF_calls S2 hS2s.out _).mono ?_
                rintro e w2 ⟨rfl, hb⟩
                rw [hS2b.out]
                have hB4 := hid (hB3.out.trans (hb.mono hB3.out.size))
                clear hb hcv hB3
                go_wp2
                go_roundw
                case rel => exact ⟨y + 1, hyl, by simp, hB4⟩
                case measure => simp [intOf]; omega
              by_cases o1 : 159 < y
              · have hv : twoB x y = 1 := by unfold twoB; rw [hl'.out, hh'.out]; rw [if_neg (by have := s'.out; omega)]
                have g0 : (128 : Int) ≤ (y : Int) := by omega
                have g1 : ¬ (y : Int) ≤ 159 := by omega
                rw [hv] at hS2b
                go_wp2_with fail
                refine (badF_calls S2 hS2s.out _).mono ?_
                rintro e w2 ⟨rfl, hb⟩
                rw [hS2b.out]
                have hB4 := hid (hB3.out.trans (hb.mono hB3.out.size))
                clear hb hcv hB3
                go_wp2
                go_roundw
                case rel => exact ⟨y + 1, hyl, by simp, hB4⟩
                case measure => simp [intOf]; omega
              have hv : twoB x y = 2 := by unfold twoB; rw [hl'.out, hh'.out]; rw [if_pos (by omega), if_neg (by have := s'.out; omega)]
              have g0 : (128 : Int) ≤ (y : Int) := by omega
              have g1 : (y : Int) ≤ 159 := by omega
              rw [hv] at hS2b
              go_wp2_with fail
              refine (badF_calls S2 hS2s.out _).mono ?_
              rintro e w2 ⟨rfl, hb⟩
              rw [hS2b.out]
              have hB4 := hid (hB3.out.trans (hb.mono hB3.out.size))
              clear hb hcv hB3
              go_wp2
              go_roundw
              case rel => exact ⟨y + 1, hyl, by simp, hB4⟩
              case measure => simp [intOf]; omega
            · obtain rfl : y = 256 := by omega
              go_wp2
              go_roundw
              case rel => exact ⟨x + 1, hlt'.out, by have := e'.out; congr 1; omega, hB2⟩
              case measure => simp [intOf]
        by_cases s2 : x = 240
        · have e : (x : Int) = 240 := by omega
          have hlo : secLo x = 144 := by rw [s2]; rfl
          have hhi : secHi x = 191 := by rw [s2]; rfl
          rw [e] at hcv hB0 ⊢
          have s' := hid s2
          have e' := hid e
          have hl' := hid hlo
          have hh' := hid hhi
          have hlt' := hid hlt
          clear a1 a2 a3 hli hxm s2 e hlo hhi hlt h1 h2
          go_wp2_with fail
          refine (badF_calls S hSs.out _).mono ?_
          rintro e w1 ⟨rfl, hb⟩
          rw [hSb.out]
          have hB1 := hid (hB0.out.trans (hb.mono hB0.out.size))
          clear hb hcv hB0
          go_wp2
          go_loopw [3] (fun yy wr => ∃ y : Nat, y ≤ 256 ∧ yy = .int .i64 (y : Int) ∧ Hid (Below w.heap.size w wr)) (fun yy _ => 256 - (intOf yy).toNat)
          case atStart => exact ⟨0, by omega, rfl, hB1⟩
          case round =>
            clear hB1
            obtain ⟨y, hy, rfl, hB2⟩ := hrel
            by_cases hyl : y < 256
            · have hyi : (y : Int) < 256 := by omega
              have hym : (y : Int) % 256 = (y : Int) := by omega
              have hcv := conv_new wr [x, y] (by intro z hz; simp at hz; have := hlt'.out; omega) 2 rfl
              simp only [List.map_cons, List.map_nil, e'.out] at hcv
              obtain ⟨S2, hS2⟩ : ∃ S, mkS [x, y] = S := ⟨_, rfl⟩
              rw [hS2] at hcv
              have hS2b := hid (show badOf S2 = twoB x y by rw [← hS2]; unfold badOf; rw [byts_mkS (by intro z hz; simp at hz; have := hlt'.out; omega)]; exact two_bad x y (by rw [s'.out]; decide) (by rw [s'.out]; decide))
              have hS2s := hid (show S2.size < 9223372036854775807 by rw [← hS2, mkS_size]; simp)
              clear hS2
              have hB3 := hid (show Below w.heap.size w (wr.alloc (.cells #[.int .u8 240, .int .u8 (y : Int)] 5)) from hB2.out.alloc hB2.out.size _)
              by_cases o0 : y < 144
              · have hv : twoB x y = 1 := by unfold twoB; rw [hl'.out, hh'.out]; rw [if_neg (by have := s'.out; omega)]
                have g0 : ¬ (144 : Int) ≤ (y : Int) := by omega
                rw [hv] at hS2b
                go_wp2_with fail
                refine (badF_calls S2 hS2s.out _).mono ?_
                rintro e w2 ⟨rfl, hb⟩
                rw [hS2b.out]
                have hB4 := hid (hB3.out.trans (hb.mono hB3.out.size))
                clear hb hcv hB3
                go_wp2
                go_roundw
                case rel => exact ⟨y + 1, hyl, by simp, hB4⟩
                case measure => simp [intOf]; omega
              by_cases o1 : 191 < y
              · have hv : twoB x y = 1 := by unfold twoB; rw [hl'.out, hh'.out]; rw [if_neg (by have := s'.out; omega)]
                have g0 : (144 : Int) ≤ (y : Int) := by omega
                have g1 : ¬ (y : Int) ≤ 191 := by omega
                rw [hv] at hS2b
                go_wp2_with fail
                refine (badF_calls S2 hS2s.out _).mono ?_
                rintro e w2 ⟨rfl, hb⟩
                rw [hS2b.out]
                have hB4 := hid (hB3.out.trans (hb.mono hB3.out.size))
                clear hb hcv hB3
                go_wp2
                go_roundw
                case rel => exact ⟨y + 1, hyl, by simp, hB4⟩
                case measure => simp [intOf]; omega
              have hv : twoB x y = 2 := by unfold twoB; rw [hl'.out, hh'.out]; rw [if_pos (by omega), if_neg (by have := s'.out; omega)]
              have g0 : (144 : Int) ≤ (y : Int) := by omega
              have g1 : (y : Int) ≤ 191 := by omega
              rw [hv] at hS2b
              go_wp2_with fail
              refine (badF_calls S2 hS2s.out _).mono ?_
              rintro e w2 ⟨rfl, hb⟩
              rw [hS2b.out]
              have hB4 := hid (hB3.out.trans (hb.mono hB3.out.size))
              clear hb hcv hB3
              go_wp2
              go_roundw
              case rel => exact ⟨y + 1, hyl, by simp, hB4⟩
              case measure => simp [intOf]; omega
            · obtain rfl : y = 256 := by omega
              go_wp2
              go_roundw
              case rel => exact ⟨x + 1, hlt'.out, by have := e'.out; congr 1; omega, hB2⟩
              case measure => simp [intOf]
        by_cases s3 : x = 244
        · have e : (x : Int) = 244 := by omega
          have hlo : secLo x = 128 := by rw [s3]; rfl
          have hhi : secHi x = 143 := by rw [s3]; rfl
          rw [e] at hcv hB0 ⊢
          have s' := hid s3
          have e' := hid e
          have hl' := hid hlo
          have hh' := hid hhi
          have hlt' := hid hlt
          clear a1 a2 a3 hli hxm s3 e hlo hhi hlt h1 h2
          go_wp2_with fail
          refine (badF_calls S hSs.out _).mono ?_
          rintro e w1 ⟨rfl, hb⟩
          rw [hSb.out]
          have hB1 := hid (hB0.out.trans (hb.mono hB0.out.size))
          clear hb hcv hB0
          go_wp2
          go_loopw [3] (fun yy wr => ∃ y : Nat, y ≤ 256 ∧ yy = .int .i64 (y : Int) ∧ Hid (Below w.heap.size w wr)) (fun yy _ => 256 - (intOf yy).toNat)
          case atStart => exact ⟨0, by omega, rfl, hB1⟩
          case round =>
            clear hB1
            obtain ⟨y, hy, rfl, hB2⟩ := hrel
            by_cases hyl : y < 256
            · have hyi : (y : Int) < 256 := by omega
              have hym : (y : Int) % 256 = (y : Int) := by omega
              have hcv := conv_new wr [x, y] (by intro z hz; simp at hz; have := hlt'.out; omega) 2 rfl
              simp only [List.map_cons, List.map_nil, e'.out] at hcv
              obtain ⟨S2, hS2⟩ : ∃ S, mkS [x, y] = S := ⟨_, rfl⟩
              rw [hS2] at hcv
              have hS2b := hid (show badOf S2 = twoB x y by rw [← hS2]; unfold badOf; rw [byts_mkS (by intro z hz; simp at hz; have := hlt'.out; omega)]; exact two_bad x y (by rw [s'.out]; decide) (by rw [s'.out]; decide))
              have hS2s := hid (show S2.size < 9223372036854775807 by rw [← hS2, mkS_size]; simp)
              clear hS2
              have hB3 := hid (show Below w.heap.size w (wr.alloc (.cells #[.int .u8 244, .int .u8 (y : Int)] 5)) from hB2.out.alloc hB2.out.size _)
              by_cases o0 : y < 128
              · have hv : twoB x y = 1 := by unfold twoB; rw [hl'.out, hh'.out]; rw [if_neg (by have := s'.out; omega)]
                have g0 : ¬ (128 : Int) ≤ (y : Int) := by omega
                rw [hv] at hS2b
                go_wp2_with fail
                refine (badF_calls S2 hS2s.out _).mono ?_
                rintro e w2 ⟨rfl, hb⟩
                rw [hS2b.out]
                have hB4 := hid (hB3.out.trans (hb.mono hB3.out.size))
                clear hb hcv hB3
                go_wp2
                go_roundw
                case rel => exact ⟨y + 1, hyl, by simp, hB4⟩
                case measure => simp [intOf]; omega
              by_cases o1 : 143 < y
              · have hv : twoB x y = 1 := by unfold twoB; rw [hl'.out, hh'.out]; rw [if_neg (by have := s'.out; omega)]
                have g0 : (128 : Int) ≤ (y : Int) := by omega
                have g1 : ¬ (y : Int) ≤ 143 := by omega
                rw [hv] at hS2b
                go_wp2_with fail
                refine (badF_calls S2 hS2s.out _).mono ?_
                rintro e w2 ⟨rfl, hb⟩
                rw [hS2b.out]
                have hB4 := hid (hB3.out.trans (hb.mono hB3.out.size))
                clear hb hcv hB3
                go_wp2
                go_roundw
                case rel => exact ⟨y + 1, hyl, by simp, hB4⟩
                case measure => simp [intOf]; omega
              have hv : twoB x y = 2 := by unfold twoB; rw [hl'.out, hh'.out]; rw [if_pos (by omega), if_neg (by have := s'.out; omega)]
              have g0 : (128 : Int) ≤ (y : Int) := by omega
              have g1 : (y : Int) ≤ 143 := by omega
              rw [hv] at hS2b
              go_wp2_with fail
              refine (badF_calls S2 hS2s.out _).mono ?_
              rintro e w2 ⟨rfl, hb⟩
              rw [hS2b.out]
              have hB4 := hid (hB3.out.trans (hb.mono hB3.out.size))
              clear hb hcv hB3
              go_wp2
              go_roundw
              case rel => exact ⟨y + 1, hyl, by simp, hB4⟩
              case measure => simp [intOf]; omega
            · obtain rfl : y = 256 := by omega
              go_wp2
              go_roundw
              case rel => exact ⟨x + 1, hlt'.out, by have := e'.out; congr 1; omega, hB2⟩
              case measure => simp [intOf]
        by_cases sm : x < 224
        · have r0 : ¬ ((x : Int) = 224) := by omega
          have r1 : ¬ ((x : Int) = 237) := by omega
          have r2 : ¬ ((x : Int) = 240) := by omega
          have r3 : ¬ ((x : Int) = 244) := by omega
          have hlo := (sec_more x).1 s0 s2
          have hhi := (sec_more x).2 s1 s3
          have smi : (x : Int) < 224 := by omega
          go_wp2_with fail
          refine (badF_calls S hSs.out _).mono ?_
          rintro e w1 ⟨rfl, hb⟩
          rw [hSb.out]
          have hB1 := hid (hB0.out.trans (hb.mono hB0.out.size))
          clear hb hcv hB0
          go_wp2
          go_loopw [3] (fun yy wr => ∃ y : Nat, y ≤ 256 ∧ yy = .int .i64 (y : Int) ∧ Hid (Below w.heap.size w wr)) (fun yy _ => 256 - (intOf yy).toNat)
          case atStart => exact ⟨0, by omega, rfl, hB1⟩
          case round =>
            clear hB1
            obtain ⟨y, hy, rfl, hB2⟩ := hrel
            by_cases hyl : y < 256
            · have hyi : (y : Int) < 256 := by omega
              have hym : (y : Int) % 256 = (y : Int) := by omega
              have hcv := conv_new wr [x, y] (by intro z hz; simp at hz; omega) 2 rfl
              simp only [List.map_cons, List.map_nil] at hcv
              obtain ⟨S2, hS2⟩ : ∃ S, mkS [x, y] = S := ⟨_, rfl⟩
              rw [hS2] at hcv
              have hS2b := hid (show badOf S2 = twoB x y by rw [← hS2]; unfold badOf; rw [byts_mkS (by intro z hz; simp at hz; omega)]; exact two_bad x y (by omega) (by omega))
              have hS2s := hid (show S2.size < 9223372036854775807 by rw [← hS2, mkS_size]; simp)
              clear hS2
              have hB3 := hid (show Below w.heap.size w (wr.alloc (.cells #[.int .u8 (x : Int), .int .u8 (y : Int)] 5)) from hB2.out.alloc hB2.out.size _)
              by_cases o0 : y < 128
              · have hv : twoB x y = 1 := by unfold twoB; rw [hlo, hhi]; rw [if_neg (by omega)]
                have g0 : ¬ (128 : Int) ≤ (y : Int) := by omega
                rw [hv] at hS2b
                go_wp2_with fail
                refine (badF_calls S2 hS2s.out _).mono ?_
                rintro e w2 ⟨rfl, hb⟩
                rw [hS2b.out]
                have hB4 := hid (hB3.out.trans (hb.mono hB3.out.size))
                clear hb hcv hB3
                go_wp2
                go_roundw
                case rel => exact ⟨y + 1, hyl, by simp, hB4⟩
                case measure => simp [intOf]; omega
              by_cases o1 : 191 < y
              · have hv : twoB x y = 1 := by unfold twoB; rw [hlo, hhi]; rw [if_neg (by omega)]
                have g0 : (128 : Int) ≤ (y : Int) := by omega
                have g1 : ¬ (y : Int) ≤ 191 := by omega
                rw [hv] at hS2b
                go_wp2_with fail
                refine (badF_calls S2 hS2s.out _).mono ?_
                rintro e w2 ⟨rfl, hb⟩
                rw [hS2b.out]
                have hB4 := hid (hB3.out.trans (hb.mono hB3.out.size))
                clear hb hcv hB3
                go_wp2
                go_roundw
                case rel => exact ⟨y + 1, hyl, by simp, hB4⟩
                case measure => simp [intOf]; omega
              have hv : twoB x y = -1 := by unfold twoB; rw [hlo, hhi]; rw [if_pos (by omega), if_pos (by omega)]
              have g0 : (128 : Int) ≤ (y : Int) := by omega
              have g1 : (y : Int) ≤ 191 := by omega
              rw [hv] at hS2b
              go_wp2_with fail
              refine (badF_calls S2 hS2s.out _).mono ?_
              rintro e w2 ⟨rfl, hb⟩
              rw [hS2b.out]
              have hB4 := hid (hB3.out.trans (hb.mono hB3.out.size))
              clear hb hcv hB3
              go_wp2
              go_roundw
              case rel => exact ⟨y + 1, hyl, by simp, hB4⟩
              case measure => simp [intOf]; omega
            · obtain rfl : y = 256 := by omega
              go_wp2
              go_roundw
              case rel => exact ⟨x + 1, hlt, by simp, hB2⟩
              case measure => simp [intOf]; omega
        · have r0 : ¬ ((x : Int) = 224) := by omega
          have r1 : ¬ ((x : Int) = 237) := by omega
          have r2 : ¬ ((x : Int) = 240) := by omega
          have r3 : ¬ ((x : Int) = 244) := by omega
          have hlo := (sec_more x).1 s0 s2
          have hhi := (sec_more x).2 s1 s3
          have smi : ¬ (x : Int) < 224 := by omega
          go_wp2_with fail
          refine (badF_calls S hSs.out _).mono ?_
          rintro e w1 ⟨rfl, hb⟩
          rw [hSb.out]
          have hB1 := hid (hB0.out.trans (hb.mono hB0.out.size))
          clear hb hcv hB0
          go_wp2
          go_loopw [3] (fun yy wr => ∃ y : Nat, y ≤ 256 ∧ yy = .int .i64 (y : Int) ∧ Hid (Below w.heap.size w wr)) (fun yy _ => 256 - (intOf yy).toNat)
          case atStart => exact ⟨0, by omega, rfl, hB1⟩
          case round =>
            clear hB1
            obtain ⟨y, hy, rfl, hB2⟩ := hrel
            by_cases hyl : y < 256
            · have hyi : (y : Int) < 256 := by omega
              have hym : (y : Int) % 256 = (y : Int) := by omega
              have hcv := conv_new wr [x, y] (by intro z hz; simp at hz; omega) 2 rfl
              simp only [List.map_cons, List.map_nil] at hcv
              obtain ⟨S2, hS2⟩ : ∃ S, mkS [x, y] = S := ⟨_, rfl⟩
              rw [hS2] at hcv
              have hS2b := hid (show badOf S2 = twoB x y by rw [← hS2]; unfold badOf; rw [byts_mkS (by intro z hz; simp at hz; omega)]; exact two_bad x y (by omega) (by omega))
              have hS2s := hid (show S2.size < 9223372036854775807 by rw [← hS2, mkS_size]; simp)
              clear hS2
              have hB3 := hid (show Below w.heap.size w (wr.alloc (.cells #[.int .u8 (x : Int), .int .u8 (y : Int)] 5)) from hB2.out.alloc hB2.out.size _)
              by_cases o0 : y < 128
              · have hv : twoB x y = 1 := by unfold twoB; rw [hlo, hhi]; rw [if_neg (by omega)]
                have g0 : ¬ (128 : Int) ≤ (y : Int) := by omega
                rw [hv] at hS2b
                go_wp2_with fail
                refine (badF_calls S2 hS2s.out _).mono ?_
                rintro e w2 ⟨rfl, hb⟩
                rw [hS2b.out]
                have hB4 := hid (hB3.out.trans (hb.mono hB3.out.size))
                clear hb hcv hB3
                go_wp2
                go_roundw
                case rel => exact ⟨y + 1, hyl, by simp, hB4⟩
                case measure => simp [intOf]; omega
              by_cases o1 : 191 < y
              · have hv : twoB x y = 1 := by unfold twoB; rw [hlo, hhi]; rw [if_neg (by omega)]
                have g0 : (128 : Int) ≤ (y : Int) := by omega
                have g1 : ¬ (y : Int) ≤ 191 := by omega
                rw [hv] at hS2b
                go_wp2_with fail
                refine (badF_calls S2 hS2s.out _).mono ?_
                rintro e w2 ⟨rfl, hb⟩
                rw [hS2b.out]
                have hB4 := hid (hB3.out.trans (hb.mono hB3.out.size))
                clear hb hcv hB3
                go_wp2
                go_roundw
                case rel => exact ⟨y + 1, hyl, by simp, hB4⟩
                case measure => simp [intOf]; omega
              have hv : twoB x y = 2 := by unfold twoB; rw [hlo, hhi]; rw [if_pos (by omega), if_neg (by omega)]
              have g0 : (128 : Int) ≤ (y : Int) := by omega
              have g1 : (y : Int) ≤ 191 := by omega
              rw [hv] at hS2b
              go_wp2_with fail
              refine (badF_calls S2 hS2s.out _).mono ?_
              rintro e w2 ⟨rfl, hb⟩
              rw [hS2b.out]
              have hB4 := hid (hB3.out.trans (hb.mono hB3.out.size))
              clear hb hcv hB3
              go_wp2
              go_roundw
              case rel => exact ⟨y + 1, hyl, by simp, hB4⟩
              case measure => simp [intOf]; omega
            · obtain rfl : y = 256 := by omega
              go_wp2
              go_roundw
              case rel => exact ⟨x + 1, hlt, by simp, hB2⟩
              case measure => simp [intOf]; omega
      · have a1 : ¬ (x : Int) < 128 := by omega
        have a2 : (194 : Int) ≤ (x : Int) := by omega
        have a3 : ¬ (x : Int) ≤ 244 := by omega
        rw [h2] at hSb
        clear h1 h2 hB
        go_wp2_with fail
        refine (badF_calls S hSs.out _).mono ?_
        rintro e w1 ⟨rfl, hb⟩
        rw [hSb.out]
        have hB1 := hid (hB0.out.trans (hb.mono hB0.out.size))
        clear hb hcv hB0
        go_wp2
        go_loopw [3] (fun yy wr => yy = .int .i64 0 ∧ Hid (Below w.heap.size w wr)) (fun _ _ => 0)
        case atStart => exact ⟨rfl, hB1⟩
        case round =>
          obtain ⟨rfl, hB2⟩ := hrel
          go_wp2
          go_roundw
          case rel => exact ⟨x + 1, hlt, by simp, hB2⟩
          case measure => simp [intOf]; omega
    · obtain rfl : x = 256 := by omega
      go_wp2
      go_ret
      exact ⟨rfl, hB.out⟩
end Go.Proofs.Ytkkmaakgacnfoaa
