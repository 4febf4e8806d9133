/-
 What package texts' small functions answer: plain, digit, numbered, single, meaning.
-/
import Derived.Test.YtkejlejhnnjdkaaGreatDoorPack6
namespace Go.Proofs.YtkejlejhnnjdkaaGreatDoor
open Go.RowKit Go.Shelf
set_option maxRecDepth 10000 in
theorem digitP_calls (c : Nat) (hc : c < 256) (w : World) : Calls Tryz.prog 162 #[.int .u8 (c : Int)] w fun e w' => e = .returned (.int .i32 (hexZ c)) ∧ w' = w := by
 obtain ⟨z, hz⟩ : ∃ z, Hid (hexZ c = z) := ⟨_, rfl⟩
 rw [hz.out]
 have hz2 := hz.out
 unfold hexZ at hz2
 by_cases h1 : 48 ≤ c ∧ c ≤ 57
 ·rw [if_pos h1] at hz2
  have h2 := h1.1
  have h3 := h1.2
  have h5 : c < 65 := by omega
  subst hz2
  clear h1 hz
  go_enter Tryz.func162, Tryz.ntmps162
  go_wp2
  go_ret
  exact ⟨by simp, rfl⟩
 ·rw [if_neg h1] at hz2
  by_cases h4 : 97 ≤ c ∧ c ≤ 102
  ·rw [if_pos h4] at hz2
   have h2 := h4.1
   have h3 := h4.2
   have h5 : 71 ≤ c := by omega
   have e : (c : Int) - 97 + 10 = (c : Int) - 87 := by omega
   subst hz2
   clear h1 h4 hz
   go_enter Tryz.func162, Tryz.ntmps162
   go_wp2
   go_ret
   exact ⟨by simp, rfl⟩
  ·rw [if_neg h4] at hz2
   by_cases h6 : 65 ≤ c ∧ c ≤ 70
   ·rw [if_pos h6] at hz2
    have h2 := h6.1
    have h3 := h6.2
    have e1 : (c : Int) + 32 - 97 = (c : Int) - 65 := by omega
    have e : (c : Int) - 65 + 10 = (c : Int) - 55 := by omega
    subst hz2
    clear h1 h4 h6 hz
    go_enter Tryz.func162, Tryz.ntmps162
    go_wp2
    go_ret
    exact ⟨by simp; try omega, rfl⟩
   ·rw [if_neg h6] at hz2
    subst hz2
    clear hz
    have key : c < 48 ∨ (58 ≤ c ∧ c < 65) ∨ (71 ≤ c ∧ c < 97) ∨ 103 ≤ c := by omega
    clear h1 h4 h6
    go_enter Tryz.func162, Tryz.ntmps162
    rcases key with h | ⟨h, h'⟩ | ⟨h, h'⟩ | h
    ·go_wp2
     go_ret
     exact ⟨rfl, rfl⟩
    ·go_wp2
     go_ret
     exact ⟨rfl, rfl⟩
    ·go_wp2
     go_ret
     exact ⟨rfl, rfl⟩
    ·go_wp2
     go_ret
     exact ⟨rfl, rfl⟩
/-- A piece as two numbers. -/
def pcT (p : Pc) : Value := .tuple #[.int .i32 (p.means : Int), .int .i64 (p.size : Int)]
set_option maxRecDepth 10000 in
theorem numbP_calls (s : ByteArray) (hs : s.size ≤ 4611686018427387904) (w : World) : Calls Tryz.prog 152 #[.string s] w fun e w' => e = .returned (pcT (fourP (bAt s) s.size)) ∧ w' = w := by
 by_cases h6 : s.size < 6
 ·have e : fourP (bAt s) s.size = pc0 := by unfold fourP; rw [if_neg (by omega)]
  rw [e]
  have hi : (s.size : Int) < 6 := by omega
  go_enter Tryz.func152, Tryz.ntmps152
  go_wp2
  exact bodyPost_ret (v := .tuple #[.int .i32 0, .int .i64 0]) (by simp [results, Tryz.results152, go_sem]; try decide) rfl ⟨rfl, rfl⟩
 ·have hi : (6 : Int) ≤ (s.size : Int) := by omega
  have hd := hid (fun (c : Nat) (hc : c < 256) (w1 : World) => digitP_calls c hc w1)
  go_enter Tryz.func152, Tryz.ntmps152
  go_wp2
  go_loopw [4, 5, 6] (fun nn ii _ wr => ∃ j : Nat, j ≤ 4 ∧ ii = .int .i64 ((2 + j : Nat) : Int) ∧ nn = .int .i32 ((hexV (bAt s) j : Nat) : Int) ∧ Hid (hexOk (bAt s) j = true) ∧ wr = w) (fun _ ii _ _ => 6 - (intOf ii).toNat)
  case atStart => exact ⟨0, by decide, rfl, rfl, rfl, rfl⟩
  case round =>
   obtain ⟨j, hj, rfl, rfl, hok, rfl⟩ := hrel
   obtain ⟨V, hV⟩ : ∃ V, Hid (hexV (bAt s) j = V) := ⟨_, rfl⟩
   by_cases hlt : j < 4
   ·have hVl : V < 4096 := by
     have h1 := hexV_lt (bAt s) j hj
     have h2 : 16 ^ j ≤ 16 ^ 3 := Nat.pow_le_pow_right (by decide) (by omega)
     rw [hV.out] at h1
     omega
    rw [hV.out]
    obtain ⟨P, hP⟩ : ∃ P, Hid (2 + j = P) := ⟨_, rfl⟩
    rw [hP.out]
    have hPi : (P : Int) < 6 := by have := hP.out; omega
    have hPs : P < s.size := by have := hP.out; omega
    have hPz : (P : Int) < (s.size : Int) := by omega
    have hx := bAt_at s P hPs
    obtain ⟨x, hxe⟩ : ∃ x, Hid (bAt s P = x) := ⟨_, rfl⟩
    rw [hxe.out] at hx
    have hxl : x < 256 := by rw [← hxe.out]; exact bAt_lt s P
    obtain ⟨z, hz⟩ : ∃ z, Hid (hexZ x = z) := ⟨_, rfl⟩
    have hzl : -1 ≤ z ∧ z < 16 := by rw [← hz.out]; exact hexZ_lt x
    have hzl1 := hzl.1
    have hzl2 := hzl.2
    have hdx := hid (hd.out x hxl)
    rw [hz.out] at hdx
    clear hzl
    go_wp2_with fail
    refine Calls.mono (hdx.out _) ?_
    rintro e w1 ⟨rfl, hw1⟩
    obtain rfl := hw1.symm
    clear hw1 hdx
    by_cases hz0 : z < 0
    ·have e : fourP (bAt s) s.size = pc0 := by
      unfold fourP
      rw [if_neg]
      rintro ⟨-, h⟩
      have h2 := hexOk_le (bAt s) (i := j + 1) h (by omega)
      rw [hexOk, Bool.and_eq_true, hP.out, hxe.out, hz.out] at h2
      simp at h2
      omega
     replace e := hid e
     go_wp2
     exact bodyPost_ret (v := .tuple #[.int .i32 0, .int .i64 0]) (by simp [results, Tryz.results152, go_sem]; try decide) rfl ⟨by rw [e.out]; rfl, rfl⟩
    ·obtain ⟨zn, rfl⟩ : ∃ zn : Nat, z = (zn : Int) := ⟨z.toNat, by omega⟩
     clear hz0
     go_wp2
     go_roundw
     case rel =>
      refine ⟨j + 1, by omega, ?_, ?_, ?_, by first | trivial | rfl⟩
      ·have := hP.out
       simp
       omega
      ·rw [hexV, hV.out, hP.out, hxe.out, hz.out]
       simp
      ·show _ = _
       rw [hexOk, hok.out, hP.out, hxe.out, hz.out]
       simp
     case measure => simp [intOf]; have := hP.out; omega
   ·rw [hV.out]
    obtain rfl : j = 4 := by omega
    have e : fourP (bAt s) s.size = ⟨6, V, true⟩ := by
     unfold fourP
     rw [if_pos ⟨by omega, hok.out⟩, hV.out]
    replace e := hid e
    go_wp2
    exact bodyPost_ret (v := .tuple #[.int .i32 (V : Int), .int .i64 6]) (by simp [results, Tryz.results152, go_sem]; try decide) rfl ⟨by rw [e.out]; rfl, rfl⟩
/-- The escape that begins there. -/
def sgP (b : Nat → Nat) (n : Nat) : Pc := if 2 ≤ n ∧ b 0 = 92 then nextP b n else pc0
set_option maxRecDepth 10000 in
set_option maxHeartbeats 1000000 in
theorem singP_calls (s : ByteArray) (hs : s.size ≤ 4611686018427387904) (w : World) : Calls Tryz.prog 138 #[.string s] w fun e w' => e = .returned (pcT (sgP (bAt s) s.size)) ∧ w' = w := by
 have hn := hid (numbP_calls s hs w)
 obtain ⟨r, hr⟩ : ∃ r, Hid (sgP (bAt s) s.size = r) := ⟨_, rfl⟩
 have hr2 := hr.out
 rw [hr.out]
 unfold sgP at hr2
 by_cases h2 : s.size < 2
 ·rw [if_neg (by omega)] at hr2
  subst hr2
  have hi : (s.size : Int) < 2 := by omega
  clear hn hr
  go_enter Tryz.func138, Tryz.ntmps138
  go_wp2
  exact bodyPost_ret (v := .tuple #[.int .i32 0, .int .i64 0]) (by simp [results, Tryz.results138, go_sem]; try decide) rfl ⟨rfl, rfl⟩
 ·have hi : (2 : Int) ≤ (s.size : Int) := by omega
  have h0 : 0 < s.size := by omega
  have h1 : 1 < s.size := by omega
  have hx := bAt_at s 0 h0
  have hy := bAt_at s 1 h1
  obtain ⟨x, hX⟩ : ∃ x, Hid (bAt s 0 = x) := ⟨_, rfl⟩
  obtain ⟨y, hY⟩ : ∃ y, Hid (bAt s 1 = y) := ⟨_, rfl⟩
  rw [hX.out] at hx hr2
  rw [hY.out] at hy
  have hxl : x < 256 := by rw [← hX.out]; exact bAt_lt s 0
  have hyl : y < 256 := by rw [← hY.out]; exact bAt_lt s 1
  by_cases k92 : x = 92
  ·subst k92
   rw [if_pos ⟨by omega, rfl⟩] at hr2
   unfold nextP at hr2
   rw [hX.out, hY.out, if_neg (by decide), if_neg (by simp), if_neg h2] at hr2
   clear hr h2 hX hY
   by_cases k34 : y = 34
   ·subst k34
    rw [if_pos (by decide)] at hr2
    subst hr2
    clear hn
    go_enter Tryz.func138, Tryz.ntmps138
    go_wp2
    exact bodyPost_ret (v := .tuple #[.int .i32 34, .int .i64 2]) (by simp [results, Tryz.results138, go_sem]; try decide) rfl ⟨rfl, rfl⟩
   have m34 : ((y : Int) == 34) = false := by simp; omega
   by_cases k92 : y = 92
   ·subst k92
    rw [if_pos (by decide)] at hr2
    subst hr2
    clear hn
    go_enter Tryz.func138, Tryz.ntmps138
    go_wp2
    exact bodyPost_ret (v := .tuple #[.int .i32 92, .int .i64 2]) (by simp [results, Tryz.results138, go_sem]; try decide) rfl ⟨rfl, rfl⟩
   have m92 : ((y : Int) == 92) = false := by simp; omega
   by_cases k47 : y = 47
   ·subst k47
    rw [if_pos (by decide)] at hr2
    subst hr2
    clear hn
    go_enter Tryz.func138, Tryz.ntmps138
    go_wp2
    exact bodyPost_ret (v := .tuple #[.int .i32 47, .int .i64 2]) (by simp [results, Tryz.results138, go_sem]; try decide) rfl ⟨rfl, rfl⟩
   have m47 : ((y : Int) == 47) = false := by simp; omega
   rw [if_neg (by omega)] at hr2
   by_cases k98 : y = 98
   ·subst k98
    rw [if_pos rfl] at hr2
    subst hr2
    clear hn
    go_enter Tryz.func138, Tryz.ntmps138
    go_wp2
    exact bodyPost_ret (v := .tuple #[.int .i32 8, .int .i64 2]) (by simp [results, Tryz.results138, go_sem]; try decide) rfl ⟨rfl, rfl⟩
   have m98 : ((y : Int) == 98) = false := by simp; omega
   rw [if_neg k98] at hr2
   by_cases k102 : y = 102
   ·subst k102
    rw [if_pos rfl] at hr2
    subst hr2
    clear hn
    go_enter Tryz.func138, Tryz.ntmps138
    go_wp2
    exact bodyPost_ret (v := .tuple #[.int .i32 12, .int .i64 2]) (by simp [results, Tryz.results138, go_sem]; try decide) rfl ⟨rfl, rfl⟩
   have m102 : ((y : Int) == 102) = false := by simp; omega
   rw [if_neg k102] at hr2
   by_cases k110 : y = 110
   ·subst k110
    rw [if_pos rfl] at hr2
    subst hr2
    clear hn
    go_enter Tryz.func138, Tryz.ntmps138
    go_wp2
    exact bodyPost_ret (v := .tuple #[.int .i32 10, .int .i64 2]) (by simp [results, Tryz.results138, go_sem]; try decide) rfl ⟨rfl, rfl⟩
   have m110 : ((y : Int) == 110) = false := by simp; omega
   rw [if_neg k110] at hr2
   by_cases k114 : y = 114
   ·subst k114
    rw [if_pos rfl] at hr2
    subst hr2
    clear hn
    go_enter Tryz.func138, Tryz.ntmps138
    go_wp2
    exact bodyPost_ret (v := .tuple #[.int .i32 13, .int .i64 2]) (by simp [results, Tryz.results138, go_sem]; try decide) rfl ⟨rfl, rfl⟩
   have m114 : ((y : Int) == 114) = false := by simp; omega
   rw [if_neg k114] at hr2
   by_cases k116 : y = 116
   ·subst k116
    rw [if_pos rfl] at hr2
    subst hr2
    clear hn
    go_enter Tryz.func138, Tryz.ntmps138
    go_wp2
    exact bodyPost_ret (v := .tuple #[.int .i32 9, .int .i64 2]) (by simp [results, Tryz.results138, go_sem]; try decide) rfl ⟨rfl, rfl⟩
   have m116 : ((y : Int) == 116) = false := by simp; omega
   rw [if_neg k116] at hr2
   by_cases k117 : y = 117
   ·subst k117
    rw [if_pos rfl] at hr2
    rw [hr2] at hn
    obtain ⟨sz, mn, fr⟩ := r
    unfold pcT at hn ⊢
    dsimp only at hn ⊢
    clear hr2
    go_enter Tryz.func138, Tryz.ntmps138
    go_wp2_with fail
    refine Calls.mono hn.out ?_
    rintro e w1 ⟨rfl, hw1⟩
    obtain rfl := hw1.symm
    clear hn hw1
    go_wp2
    exact bodyPost_ret (v := .tuple #[.int .i32 (mn : Int), .int .i64 (sz : Int)]) (by simp [results, Tryz.results138, go_sem]; try decide) rfl ⟨rfl, rfl⟩
   have m117 : ((y : Int) == 117) = false := by simp; omega
   rw [if_neg k117] at hr2
   subst hr2
   clear hn
   go_enter Tryz.func138, Tryz.ntmps138
   go_wp2
   exact bodyPost_ret (v := .tuple #[.int .i32 0, .int .i64 0]) (by simp [results, Tryz.results138, go_sem]; try decide) rfl ⟨rfl, rfl⟩
  ·rw [if_neg (by omega)] at hr2
   subst hr2
   have m92 : ((x : Int) != 92) = true := by simp; omega
   clear hn hr
   go_enter Tryz.func138, Tryz.ntmps138
   go_wp2
   exact bodyPost_ret (v := .tuple #[.int .i32 0, .int .i64 0]) (by simp [results, Tryz.results138, go_sem]; try decide) rfl ⟨rfl, rfl⟩
/-- The escape that a list begins with. -/
def sgL (l : List Nat) : Pc := sgP (lb l) l.length
theorem sg_L (s : ByteArray) : sgP (bAt s) s.size = sgL (byts s) := by
 unfold sgL
 rw [bAt_lb, byts_length]
/-- The character that is meant by it, or by it and the next one; and how many bytes that takes. -/
def meanL (l : List Nat) : Nat × Nat :=
 if (sgL l).means < 55296 ∨ 57343 < (sgL l).means then ((sgL l).means, (sgL l).size)
 else if (sgL l).means < 56320 ∧ 56320 ≤ (sgL (l.drop (sgL l).size)).means ∧ (sgL (l.drop (sgL l).size)).means ≤ 57343 then (65536 + ((sgL l).means - 55296) * 1024 + ((sgL (l.drop (sgL l).size)).means - 56320), (sgL l).size + (sgL (l.drop (sgL l).size)).size)
 else (65533, (sgL l).size)
theorem sgP_size (b : Nat → Nat) (n : Nat) (hb : ∀ i, b i < 256) : (sgP b n).size ≤ n ∧ (sgP b n).means < 65536 := by
 unfold sgP
 split
 ·rename_i h
  exact nextP_size b n (by omega) hb
 ·exact ⟨Nat.zero_le _, by decide⟩
theorem sgL_size {l : List Nat} (h : ∀ x ∈ l, x < 256) : (sgL l).size ≤ l.length ∧ (sgL l).means < 65536 := sgP_size _ _ (lb_lt h)
set_option maxRecDepth 10000 in
set_option maxHeartbeats 1000000 in
theorem meanP_calls (s : ByteArray) (hs : s.size ≤ 4611686018427387904) (M Z : Nat) (hM : Hid (meanL (byts s) = (M, Z))) (w : World) : Calls Tryz.prog 112 #[.string s] w fun e w' => e = .returned (.tuple #[.int .i32 (M : Int), .int .i64 (Z : Int)]) ∧ w' = w := by
 have hsg := hid (singP_calls s hs w)
 rw [sg_L] at hsg
 obtain ⟨sz, mn, fr, hP⟩ : ∃ sz mn fr, Hid (sgL (byts s) = ⟨sz, mn, fr⟩) := ⟨_, _, _, rfl⟩
 have hps := sgL_size (byts_lt s)
 have hM2 := hM.out
 unfold meanL at hM2
 rw [hP.out] at hps hsg hM2
 rw [byts_length] at hps
 dsimp only at hM2 hps
 have hsz : sz ≤ s.size := hps.1
 have hmn : mn < 65536 := hps.2
 have hszi : (sz : Int) ≤ (s.size : Int) := by omega
 unfold pcT at hsg
 dsimp only at hsg
 clear hps hM
 by_cases h1 : mn < 55296
 ·rw [if_pos (.inl h1)] at hM2
  obtain ⟨rfl, rfl⟩ : mn = M ∧ sz = Z := by simpa using hM2
  have i1 : (mn : Int) < 55296 := by omega
  clear hM2
  go_enter Tryz.func112, Tryz.ntmps112
  go_wp2_with fail
  refine Calls.mono hsg.out ?_
  rintro e w1 ⟨rfl, hw1⟩
  obtain rfl := hw1.symm
  clear hsg hw1
  go_wp2
  exact bodyPost_ret (v := .tuple #[.int .i32 (mn : Int), .int .i64 (sz : Int)]) (by simp [results, Tryz.results112, go_sem]; try decide) rfl ⟨rfl, rfl⟩
 ·have i1 : decide ((mn : Int) < 55296) = false := by simp; omega
  by_cases h2 : 57343 < mn
  ·rw [if_pos (.inr h2)] at hM2
   obtain ⟨rfl, rfl⟩ : mn = M ∧ sz = Z := by simpa using hM2
   have i2 : (57343 : Int) < (mn : Int) := by omega
   clear hM2
   go_enter Tryz.func112, Tryz.ntmps112
   go_wp2_with fail
   refine Calls.mono hsg.out ?_
   rintro e w1 ⟨rfl, hw1⟩
   obtain rfl := hw1.symm
   clear hsg hw1
   go_wp2
   exact bodyPost_ret (v := .tuple #[.int .i32 (mn : Int), .int .i64 (sz : Int)]) (by simp [results, Tryz.results112, go_sem]; try decide) rfl ⟨rfl, rfl⟩
  ·have i2 : decide ((57343 : Int) < (mn : Int)) = false := by simp; omega
   rw [if_neg (by omega)] at hM2
   by_cases h3 : mn < 56320
   ·have i3 : (mn : Int) < 56320 := by omega
    obtain ⟨t, ht⟩ : ∃ t, s.extract sz s.size = t := ⟨_, rfl⟩
    obtain ⟨b1, b2⟩ := byts_from s sz
    rw [ht] at b1 b2
    have hsg2 := hid (singP_calls t (by omega))
    rw [← b1] at hM2
    obtain ⟨sz2, mn2, fr2, hP2⟩ : ∃ sz mn fr, Hid (sgL (byts t) = ⟨sz, mn, fr⟩) := ⟨_, _, _, rfl⟩
    have hps2 := sgL_size (byts_lt t)
    have hsg3 : Hid (∀ w : World, Calls Tryz.prog 138 #[.string t] w fun e w' => e = .returned (.tuple #[.int .i32 (mn2 : Int), .int .i64 (sz2 : Int)]) ∧ w' = w) := fun w => by
     have h := hsg2.out w
     rw [sg_L, hP2.out] at h
     exact h
    rw [hP2.out] at hM2 hps2
    rw [byts_length, b2] at hps2
    dsimp only at hM2 hps2
    have hsz2 : sz2 ≤ s.size - sz := hps2.1
    have hmn2 : mn2 < 65536 := hps2.2
    have hsz2i : (sz : Int) + (sz2 : Int) ≤ (s.size : Int) := by omega
    clear hps2 hsg2 b1 b2 hsz2
    by_cases h4 : 56320 ≤ mn2
    ·have i4 : (56320 : Int) ≤ (mn2 : Int) := by omega
     by_cases h5 : mn2 ≤ 57343
     ·have i5 : (mn2 : Int) ≤ 57343 := by omega
      rw [if_pos ⟨h3, h4, h5⟩] at hM2
      simp only [Prod.mk.injEq] at hM2
      obtain ⟨e1, e2⟩ := hM2
      have e1i : (65536 : Int) + ((mn : Int) - 55296) * 1024 + ((mn2 : Int) - 56320) = (M : Int) := by omega
      have e2i : (sz : Int) + (sz2 : Int) = (Z : Int) := by omega
      have e1h := hid e1i
      have e2h := hid e2i
      clear e1 e2 e1i e2i
      go_enter Tryz.func112, Tryz.ntmps112
      go_wp2_with fail
      refine Calls.mono hsg.out ?_
      rintro e w1 ⟨rfl, hw1⟩
      obtain rfl := hw1.symm
      clear hsg hw1
      go_wp2_with fail
      refine Calls.mono (hsg3.out _) ?_
      rintro e w1 ⟨rfl, hw1⟩
      obtain rfl := hw1.symm
      clear hsg3 hw1
      go_wp2
      refine bodyPost_ret (v := .tuple #[.int .i32 (65536 + ((mn : Int) - 55296) * 1024 + ((mn2 : Int) - 56320)), .int .i64 ((sz : Int) + (sz2 : Int))]) (by simp [results, Tryz.results112, go_sem]; try decide) rfl ⟨?_, rfl⟩
      rw [e1h.out, e2h.out]
     ·have i5 : decide ((mn2 : Int) ≤ 57343) = false := by simp; omega
      rw [if_neg (by omega)] at hM2
      obtain ⟨rfl, rfl⟩ : 65533 = M ∧ sz = Z := by simpa using hM2
      clear hM2
      go_enter Tryz.func112, Tryz.ntmps112
      go_wp2_with fail
      refine Calls.mono hsg.out ?_
      rintro e w1 ⟨rfl, hw1⟩
      obtain rfl := hw1.symm
      clear hsg hw1
      go_wp2_with fail
      refine Calls.mono (hsg3.out _) ?_
      rintro e w1 ⟨rfl, hw1⟩
      obtain rfl := hw1.symm
      clear hsg3 hw1
      go_wp2
      exact bodyPost_ret (v := .tuple #[.int .i32 65533, .int .i64 (sz : Int)]) (by simp [results, Tryz.results112, go_sem]; try decide) rfl ⟨rfl, rfl⟩
    ·have i4 : decide ((56320 : Int) ≤ (mn2 : Int)) = false := by simp; omega
     rw [if_neg (by omega)] at hM2
     obtain ⟨rfl, rfl⟩ : 65533 = M ∧ sz = Z := by simpa using hM2
     clear hM2
     go_enter Tryz.func112, Tryz.ntmps112
     go_wp2_with fail
     refine Calls.mono hsg.out ?_
     rintro e w1 ⟨rfl, hw1⟩
     obtain rfl := hw1.symm
     clear hsg hw1
     go_wp2_with fail
     refine Calls.mono (hsg3.out _) ?_
     rintro e w1 ⟨rfl, hw1⟩
     obtain rfl := hw1.symm
     clear hsg3 hw1
     go_wp2
     exact bodyPost_ret (v := .tuple #[.int .i32 65533, .int .i64 (sz : Int)]) (by simp [results, Tryz.results112, go_sem]; try decide) rfl ⟨rfl, rfl⟩
   ·have i3 : decide ((mn : Int) < 56320) = false := by simp; omega
    rw [if_neg (by omega)] at hM2
    obtain ⟨rfl, rfl⟩ : 65533 = M ∧ sz = Z := by simpa using hM2
    clear hM2
    go_enter Tryz.func112, Tryz.ntmps112
    go_wp2_with fail
    refine Calls.mono hsg.out ?_
    rintro e w1 ⟨rfl, hw1⟩
    obtain rfl := hw1.symm
    clear hsg hw1
    go_wp2
    exact bodyPost_ret (v := .tuple #[.int .i32 65533, .int .i64 (sz : Int)]) (by simp [results, Tryz.results112, go_sem]; try decide) rfl ⟨rfl, rfl⟩
/-- May a byte stand for itself? -/
def plB (c : Nat) : Bool := decide (32 ≤ c ∧ c ≠ 34 ∧ c ≠ 92)
/-- How many bytes stand ahead of the first one that may not. -/
def IsPl (s : ByteArray) (k : Nat) : Prop := k ≤ s.size ∧ (∀ i, i < k → plB (bAt s i) = true) ∧ (k < s.size → plB (bAt s k) = false)
theorem pl_ex (s : ByteArray) : ∃ k, IsPl s k := by
 have h : ∀ n, n ≤ s.size → (∃ k, IsPl s k) ∨ ∀ i, i < n → plB (bAt s i) = true := by
  intro n
  induction n with
  | zero => exact fun _ => .inr (fun i hi => by omega)
  | succ n ih =>
   intro hn
   rcases ih (by omega) with h | h
   ·exact .inl h
   ·cases hp : plB (bAt s n) with
    | false => exact .inl ⟨n, by omega, h, fun _ => hp⟩
    | true => exact .inr (fun i hi => by
      by_cases e : i = n
      ·subst e; exact hp
      ·exact h i (by omega))
 rcases h s.size (Nat.le_refl _) with h | h
 ·exact h
 ·exact ⟨s.size, Nat.le_refl _, h, fun h => by omega⟩
set_option maxRecDepth 10000 in
theorem plainP_calls (s : ByteArray) (hs : s.size ≤ 4611686018427387904) (k : Nat) (hk : Hid (IsPl s k)) (w : World) : Calls Tryz.prog 109 #[.string s] w fun e w' => e = .returned (.int .i64 (k : Int)) ∧ w' = w := by
 have hks : k ≤ s.size := hk.out.1
 have hsi : (s.size : Int) ≤ 4611686018427387904 := by omega
 go_enter Tryz.func109, Tryz.ntmps109
 go_wp2
 go_loopw [3, 4, 7] (fun _ _ ii wr => ∃ i : Nat, i ≤ k ∧ ii = .int .i64 (i : Int) ∧ wr = w) (fun _ _ ii _ => s.size - (intOf ii).toNat)
 case atStart => exact ⟨0, Nat.zero_le _, rfl, rfl⟩
 case round =>
  obtain ⟨i, hi, rfl, rfl⟩ := hrel
  by_cases hlt : i < s.size
  ·have hli : (i : Int) < (s.size : Int) := by omega
   have hx := bAt_at s i hlt
   obtain ⟨x, hX⟩ : ∃ x, Hid (bAt s i = x) := ⟨_, rfl⟩
   rw [hX.out] at hx
   have hxl : x < 256 := by rw [← hX.out]; exact bAt_lt s i
   by_cases hp : plB x = true
   ·have hik : i < k := by
     by_cases e : i = k
     ·subst e
      have := hk.out.2.2 hlt
      rw [hX.out, hp] at this
      cases this
     ·omega
    unfold plB at hp
    simp only [decide_eq_true_eq] at hp
    have m32 : decide ((x : Int) < 32) = false := by simp; omega
    have m34 : ((x : Int) == 34) = false := by simp; omega
    have m92 : ((x : Int) == 92) = false := by simp; omega
    have n32 : decide (x < 32) = false := by simp; omega
    clear hp
    go_wp2
    go_roundw
    case rel => exact ⟨i + 1, by omega, by simp, trivial⟩
    case measure => simp [intOf]; omega
   ·have hik : k = i := by
     by_cases e : i = k
     ·exact e.symm
     ·have := hk.out.2.1 i (by omega)
      rw [hX.out] at this
      exact absurd this hp
    subst hik
    unfold plB at hp
    simp only [decide_eq_true_eq] at hp
    by_cases a1 : x < 32
    ·have b1 : (x : Int) < 32 := by omega
     clear hp
     go_wp2
     go_ret
     exact ⟨rfl, rfl⟩
    ·have m32 : decide ((x : Int) < 32) = false := by simp; omega
     have n32 : decide (x < 32) = false := by simp; omega
     by_cases a2 : x = 34
     ·subst a2
      clear hp
      go_wp2
      go_ret
      exact ⟨rfl, rfl⟩
     ·have m34 : ((x : Int) == 34) = false := by simp; omega
      obtain rfl : x = 92 := by omega
      clear hp
      go_wp2
      go_ret
      exact ⟨rfl, rfl⟩
  ·obtain rfl : i = s.size := by omega
   obtain rfl : k = s.size := by omega
   go_wp2
   go_ret
   exact ⟨rfl, rfl⟩
end Go.Proofs.YtkejlejhnnjdkaaGreatDoor
