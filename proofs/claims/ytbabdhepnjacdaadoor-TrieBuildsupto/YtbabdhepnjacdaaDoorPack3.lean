/-
  Texts of mine that others lean on, one behind the other.
-/
import Derived.Test.YtbabdhepnjacdaaDoorPack1
import Derived.Lib.ConvBytes
import Derived.Laws.AppendOwn
import Derived.Test.YtbabdhepnjacdaaDoorPack2
import Derived.Lib.TrimByte
import Derived.WalkMore
import Derived.ScopeJumps
import Derived.Deep.DeepCutAuto
import Derived.Test.YtbabdhepnjacdaaDoorShelfA
import Derived.Deep.RegionHeld
import Derived.Deep.Quiet
/-
 What keeps a row.
-/
namespace Go.Proofs.YtbabdhepnjacdaaDoor
open Go.RowKit
theorem bytes_below (w : World) (e : TypeId) (s : ByteArray) : Below w.heap.size w (Lib.bytesWorld w e s) :=
 ⟨rfl, rfl, rfl, by rw [Lib.bytesWorld_size]; omega, fun k hk => Lib.bytesWorld_at_old w e s k hk⟩
/-- A row is kept where all that was there is. -/
theorem row_below {w w' : World} {B n : Nat} {e : TypeId} {v : Value} {xs : List Value} (h : w.ownsRow B e 1 v n xs) (hb : Below w.heap.size w w') : w'.ownsRow B e 1 v n xs := by
 obtain ⟨h1, h2 | ⟨g, cap, cur, h3, h4, h5, h6⟩⟩ := h
 ·exact ⟨h1, .inl h2⟩
 ·exact ⟨h1, .inr ⟨g, cap, cur, h3, h4, (hb.block g (Array.getElem?_eq_some_iff.1 h5).1).trans h5, h6⟩⟩
/-- A row of other elements isn't the one that grows. -/
theorem row_otherK {w w' : World} {B C n m : Nat} {e f : TypeId} {v u : Value} {xs ys : List Value} (hef : e ≠ f) (h : w.ownsRow B e 1 v n xs) (k : w.ownsRow C f 1 u m ys) (hg : w.grownBy w' u.ownBlock) : w'.ownsRow B e 1 v n xs := by
 obtain ⟨h1, h2 | ⟨g, cap, cur, h3, h4, h5, h6⟩⟩ := h
 ·exact ⟨h1, .inl h2⟩
 ·refine ⟨h1, .inr ⟨g, cap, cur, h3, h4, (hg.block g (Array.getElem?_eq_some_iff.1 h5).1 ?_).trans h5, h6⟩⟩
  intro hgu
  obtain ⟨_, ⟨rfl, _⟩ | ⟨g', _, cur', rfl, _, k5, _⟩⟩ := k
  ·cases hgu
  ·have : g = g' := by simpa [Value.ownBlock] using hgu
   subst this
   rw [h5] at k5
   simp at k5
   exact hef k5.2
end Go.Proofs.YtbabdhepnjacdaaDoor

/-
 What quarryref05.Walk answers.
-/
namespace Go.Proofs.YtbabdhepnjacdaaDoor
open Go.RowKit
def ints5 (L : List Nat) : List Value := L.map fun p => .int .i64 ((p : Nat) : Int)
def runes5 (L : List Nat) : List Value := L.map fun p => .int .i32 ((p : Nat) : Int)
theorem ints5_snoc (L : List Nat) (p : Nat) : ints5 (L ++ [p]) = ints5 L ++ [.int .i64 ((p : Nat) : Int)] := by simp [ints5]
theorem runes5_snoc (L : List Nat) (p : Nat) : runes5 (L ++ [p]) = runes5 L ++ [.int .i32 ((p : Nat) : Int)] := by simp [runes5]
/-- Two rows hold the places and the characters. -/
def Rows5 (B : Nat) (w : World) (v u : Value) (L : List (Nat × Nat)) : Prop := w.ownsRow B 3 1 v L.length (ints5 (L.map (·.1))) ∧ w.ownsRow B 21 1 u L.length (runes5 (L.map (·.2)))
theorem infoI5 : (Tryd.prog.info? 3).map (fun i => (i.zero, i.size, i.bytes)) = some (some (.int .i64 0), 1, 8) := by kernel_rfl
theorem infoR5 : (Tryd.prog.info? 21).map (fun i => (i.zero, i.size, i.bytes)) = some (some (.int .i32 0), 1, 4) := by kernel_rfl
/-- What stands within the loop over one form. -/
def Inner (s : ByteArray) (p : Nat) (B : Nat) (w0 : World) (v u : Value) (n : Nat) (whole : Bool) (wr : World) : Prop :=
 ∃ (b : List Nat) (q : Q5) (r : Nat) (pre : List (Nat × Nat)), Rows5 B wr v u pre ∧ Below B w0 wr ∧
  ((whole = false ∧ n = b.length + 1 ∧ (b = [] → p < s.size) ∧ WalkAt s p (p + b.length) b q r pre) ∨ (whole = true ∧ 2 ≤ n ∧ b = [] ∧ WalkAt s (p + n - 1) (p + n - 1) b q r pre))
set_option maxRecDepth 10000 in
set_option maxHeartbeats 2000000 in
theorem walk5_calls (s : ByteArray) (hs : s.size ≤ 4294967296) (w : World) :
  Calls Tryd.prog 84 #[.string s] w fun e w' => ∃ v u, e = .returned (.tuple #[v, u, .int .i64 (badOf s)]) ∧ Rows5 w.heap.size w' v u (telOf s) ∧ Below w.heap.size w w' := by
 obtain ⟨i0, hi, hz0, hz1, hz2⟩ := info_parts infoI5
 obtain ⟨j0, hj, hy0, hy1, hy2⟩ := info_parts infoR5
 go_enter Tryd.func84, Tryd.ntmps84
 go_wp2
 go_loopw [5, 6, 7] (fun v u ff wr => ∃ (p r : Nat) (q : Q5) (pre : List (Nat × Nat)), ff = .int .i64 (p : Int) ∧ Rows5 w.heap.size wr v u pre ∧ Below w.heap.size w wr ∧ WalkAt s p p [] q r pre) (fun _ _ ff _ => s.size - (intOf ff).toNat)
 case atStart => exact ⟨0, 0, s5.q, [], rfl, ⟨World.ownsRow_nil _ _ _ _, World.ownsRow_nil _ _ _ _⟩, Below.refl _ _, WalkAt.start s⟩
 case round =>
  obtain ⟨p, r, q, pre, rfl, hR, hB, hW⟩ := hrel
  have hps := hW.2.1
  by_cases hlt : p < s.size
  ·have hli : (p : Int) < (s.size : Int) := by omega
   have hin := hid (show Inner s p w.heap.size w u5 u6 1 false wr from ⟨[], q, r, pre, hR, hB, .inl ⟨rfl, rfl, fun _ => hlt, hW⟩⟩)
   clear hR hB hW
   go_wp2
   go_loopw [5, 6, 8, 9] (fun v u nn wh wr => ∃ (n : Nat) (whole : Bool), nn = .int .i64 (n : Int) ∧ wh = .bool whole ∧ Inner s p w.heap.size w v u n whole wr) (fun _ _ nn _ _ => 6 - (intOf nn).toNat)
   case atStart => exact ⟨1, false, rfl, rfl, hin.out⟩
   case round =>
    obtain ⟨n, whole, rfl, rfl, hI⟩ := hrel
    clear hin
    obtain ⟨b, q, r, pre, hR, hB, ⟨rfl, hn, hp, hW⟩ | ⟨rfl, hn, hb, hW⟩⟩ := hI
    ·have hbl := form_len hW.2.2.2.1
     have hile := hW.2.1
     obtain ⟨i, hieq⟩ : ∃ i : Nat, i = p + b.length := ⟨_, rfl⟩
     rw [← hieq] at hW hile
     have hni : (p : Int) + (n : Int) = (i : Int) + 1 := by omega
     have hni' : p + n = i + 1 := by omega
     have hn4 : n ≤ 4 := by omega
     have hn' := hid hn
     have hp' := hid hp
     have hieq' := hid hieq
     have hR' := hid hR
     have hB' := hid hB
     have hW' := hid hW
     clear hn hp hieq hR hB hW
     by_cases hend : i = s.size
     ·have hgt : (s.size : Int) < (i : Int) + 1 := by omega
      have hbad := hid (show badOf s = (s.size : Int) by
       have h := hW'.out
       rw [hend] at h
       rw [h.done.2, if_neg]
       intro k
       have := (form_nil h.2.2.2.1).2 k
       have := hp'.out this
       have := hieq'.out
       simp_all)
      have htel := hid (show Rows5 w.heap.size wr u5 u6 (telOf s) by
       have h := hW'.out
       rw [hend] at h
       rw [h.done.1]
       exact hR'.out)
      clear hend
      go_wp2
      exact bodyPost_ret (v := .tuple #[u5, u6, .int .i64 (s.size : Int)]) (by simp [results, Tryd.results84, go_sem]; try decide) rfl ⟨_, _, by rw [hbad.out], htel.out, hB'.out⟩
     ·have hgt : ¬ (s.size : Int) < (i : Int) + 1 := by omega
      have hilt : i < s.size := by omega
      have hsl : i + 1 ≤ s.size := hilt
      obtain ⟨E, hE⟩ : ∃ E : ByteArray, s.extract p (i + 1) = E := ⟨_, rfl⟩
      have hbE := hid (show byts E = b ++ [byt s i] by
       rw [← hE, byts_extract, show i + 1 - p = b.length + 1 by have := hieq'.out; omega, List.take_add_one, ← hW'.out.2.2.1, List.getElem?_drop, ← hieq'.out, byts_get s i hilt]
       rfl)
      have hEs := hid (show E.size = n by rw [← byts_length, hbE.out, List.length_append, hn'.out]; rfl)
      have hcv := Lib.run_convert_string_bytes (P := Tryd.prog) wr 9 118 5 E Tryd.underlying9 Tryd.underlying118 Tryd.underlying5
      rw [hEs.out] at hcv
      obtain ⟨W1, hW1⟩ : ∃ W1, Lib.bytesWorld wr 5 E = W1 := ⟨_, rfl⟩
      rw [hW1] at hcv
      have hbel : Below wr.heap.size wr W1 := by rw [← hW1]; exact bytes_below _ _ _
      have hcell : ∀ (j y : Nat), (b ++ [byt s i])[j]? = some y → W1.cell? ⟨wr.heap.size, j, none⟩ = some (.int .u8 (y : Int)) ∧ y < 256 := by
       intro j y hj
       rw [← hbE.out] at hj
       have hjl : j < E.size := by rw [← byts_length]; exact (List.getElem?_eq_some_iff.1 hj).1
       rw [byts_get E j hjl] at hj
       cases hj
       rw [← hW1]
       exact ⟨Lib.bytesWorld_cell wr 5 E j hjl, byt_lt _ _⟩
      obtain ⟨x, t, hxt⟩ : ∃ x t, b ++ [byt s i] = x :: t := by cases b <;> exact ⟨_, _, rfl⟩
      have htl : t.length + 1 = n := by have := congrArg List.length hxt; rw [List.length_append] at this; simp at this; have := hn'.out; omega
      rw [hxt] at hcell
      obtain ⟨hc0, hx⟩ := hcell 0 x rfl
      have hbg := hid (begins_calls x t hx (by omega) wr.heap.size (grownCap wr n 0 5) W1 hc0 (fun j y hj => hcell (j + 1) y hj))
      rw [htl] at hbg
      have hbel' := hid hbel
      have hxt' := hid hxt
      have hx' := hid hx
      have htl' := hid htl
      have hend' := hid hend
      generalize grownCap wr n 0 5 = cap at hcv hbg
      clear hW1 hbel hcell hc0 hx hxt htl hend hilt
      go_wp2_with fail
      refine Calls.mono hbg.out ?_
      rintro e w1 ⟨hV, hw1⟩
      obtain ⟨ok, rr, al, rfl, hok, hrr, hal⟩ := hV
      rw [hw1]
      clear hw1 hbg hcv
      have hR1 := hid (show Rows5 w.heap.size W1 u5 u6 pre from ⟨row_below hR'.out.1 hbel'.out, row_below hR'.out.2 hbel'.out⟩)
      have hB2 := hid (hB'.out.trans (hbel'.out.mono hB'.out.size))
      have hWs := hid (show w.heap.size ≤ W1.heap.size from Nat.le_trans hB'.out.size hbel'.out.size)
      have hpl := hid (show pre.length ≤ 4294967296 by have := hW'.out.2.2.2.2.2.2; have := hieq'.out; omega)
      cases hst : stp q (byt s i) with
      | none =>
       have hno := begins_none hW'.out.2.2.2.1 (byt_lt s i) hst x t hxt'.out hx'.out
       obtain rfl : ok = false := by cases ok; rfl; exact absurd (hok.1 rfl) hno
       have hilt : i < s.size := hsl
       have hbad := hid (hW'.out.bad hilt hst).1
       have htel := hid (show Rows5 w.heap.size W1 u5 u6 (telOf s) by rw [(hW'.out.bad hilt hst).2]; exact hR1.out)
       clear hok hrr hal hst hno
       go_wp2
       exact bodyPost_ret (v := .tuple #[u5, u6, .int .i64 (i : Int)]) (by simp [results, Tryd.results84, go_sem]; try decide) rfl ⟨_, _, by rw [hbad.out], htel.out, hB2.out⟩
      | some q' =>
       have hsome := begins_some hW'.out.2.2.2.1 (byt_lt s i) hst x t hxt'.out hx'.out
       obtain rfl : ok = true := hok.2 hsome.1
       have hal2 := hal rfl
       clear hal
       obtain ⟨c, rfl, hc1, hc2⟩ := hrr rfl
       have hilt : i < s.size := hsl
       have hnx := hid (hW'.out.next hilt hst)
       by_cases hl : q'.left = 0
       ·have e1 := hsome.2.1.2 hl
        have e2 := hsome.2.2 hl
        obtain rfl : al = true := by rw [hal2]; exact decide_eq_true (by have := htl'.out; omega)
        obtain rfl : c = nextR b r (byt s i) q'.left := by omega
        have hnx1 := hid (hnx.out.1 hl)
        generalize nextR b r (byt s i) q'.left = c at *
        clear hok hrr hal2 hst hsome hl e1 e2 hnx hc1 hc2 hilt
        have hr1 := hR1.out.1
        have hr1' := hid hr1
        clear hr1
        go_wp2_with (first
         | (at_builtin; refine wpList_append_own _ rfl _ _ 36 rfl w.heap.size 3 i0 (.int .i64 0) 1 8 Tryd.underlying36 hi hz0 hz1 hz2  rfl (by decide) _ _ _ rfl (World.ownsRow.alloc hr1'.out _) ⟨W1.heap.size, 0, none⟩ 1 1 [.int .i64 (p : Int)] rfl rfl ?c1 ?c2 ?c3 ?c4 ?c5 ?_)
         | go_in)
        case c1 =>
         intro j u hj
         match j, hj with
         | 0, hj => simp at hj; subst hj; simp [Addr.add]
        case c2 => intro u hu; simp at hu; subst hu; rfl
        case c3 => unfold maxLen; have := hpl.out; omega
        case c4 => have := hpl.out; omega
        case c5 => have := hWs.out; simp; omega
        ·intro v' w2 hown1 hg1 _
         have hl2 := hid (row_otherK (by decide) (World.ownsRow.alloc hR1.out.2 (.cells #[.int .i64 (p : Int)] 3)) (World.ownsRow.alloc hr1'.out (.cells #[.int .i64 (p : Int)] 3)) hg1)
         have hb1 := hid (show Below w.heap.size w w2 from (hB2.out.alloc hWs.out _).grown hg1 (by simp; have := hWs.out; omega) (fun k e => (hr1'.out.lt k e).1))
         have hown1' := hid hown1
         have hw2s := hid hb1.out.size
         clear hown1 hg1
         go_wp2_with (first
          | (at_builtin; refine wpList_append_own _ rfl _ _ 133 rfl w.heap.size 21 j0 (.int .i32 0) 1 4 Tryd.underlying133 hj hy0 hy1 hy2  rfl (by decide) _ _ _ rfl (World.ownsRow.alloc hl2.out _) ⟨w2.heap.size, 0, none⟩ 1 1 [.int .i32 (c : Int)] rfl rfl ?c1 ?c2 ?c3 ?c4 ?c5 ?_)
          | go_in)
         case c1 =>
          intro j u hj
          match j, hj with
          | 0, hj => simp at hj; subst hj; simp [Addr.add]
         case c2 => intro u hu; simp at hu; subst hu; rfl
         case c3 => unfold maxLen; have := hpl.out; omega
         case c4 => have := hpl.out; omega
         case c5 => have := hw2s.out; simp; omega
         ·intro v2 w3 hown2 hg2 _
          have ha3 := hid (row_otherK (by decide) (World.ownsRow.alloc hown1'.out (.cells #[.int .i32 (c : Int)] 21)) (World.ownsRow.alloc hl2.out (.cells #[.int .i32 (c : Int)] 21)) hg2)
          have hb3 := hid (show Below w.heap.size w w3 from (hb1.out.alloc hw2s.out _).grown hg2 (by simp; have := hw2s.out; omega) (fun k e => (hl2.out.lt k e).1))
          have hR3 := hid (show Rows5 w.heap.size w3 v' v2 (pre ++ [(p, c)]) by
           refine ⟨?_, ?_⟩
           ·rw [List.map_append, List.length_append]
            show World.ownsRow _ _ _ _ _ _ (ints5 (pre.map (·.1) ++ [p]))
            rw [ints5_snoc]
            exact ha3.out
           ·rw [List.map_append, List.length_append]
            show World.ownsRow _ _ _ _ _ _ (runes5 (pre.map (·.2) ++ [c]))
            rw [runes5_snoc]
            exact hown2)
          clear hown2 hg2
          go_wp2
          go_roundw
          case rel => exact ⟨n + 1, true, by simp, rfl, [], q', c, pre ++ [(p, c)], hR3.out, hb3.out, .inr ⟨rfl, by have := hn'.out; omega, rfl, by rw [show p + (n + 1) - 1 = i + 1 by omega]; exact hnx1.out⟩⟩
          case measure => simp [intOf]; omega
       ·obtain rfl : al = false := by rw [hal2]; exact decide_eq_false (fun k => hl (hsome.2.1.1 (by have := htl'.out; omega)))
        have hnx1 := hid (hnx.out.2 hl)
        generalize nextR b r (byt s i) q'.left = c2 at *
        clear hok hrr hal2 hst hsome hl hnx hc1 hc2 hilt
        go_wp2
        go_roundw
        case rel => exact ⟨n + 1, false, by simp, rfl, b ++ [byt s i], q', c2, pre, hR1.out, hB2.out, .inl ⟨rfl, by rw [List.length_append, hn'.out]; rfl, fun k => by simp at k, by rw [List.length_append, ← Nat.add_assoc, ← hieq'.out]; exact hnx1.out⟩⟩
        case measure => simp [intOf]; omega
    ·subst hb
     have hn' := hid hn
     have hW' := hid hW
     have hR' := hid hR
     have hB' := hid hB
     have hi2 := hW.2.1
     have hq2 : (p : Int) + (n : Int) ≤ 9223372036854775807 := by omega
     clear hR hB hW
     go_wp2
     go_roundw
     case rel => exact ⟨p + n - 1, r, q, pre, by congr 1; omega, hR'.out, hB'.out, hW'.out⟩
     case measure => simp [intOf]; omega
  ·obtain rfl : p = s.size := by omega
   have hbad := hid (show badOf s = -1 by rw [hW.done.2, if_pos (show q.left = 0 from hW.2.2.2.1)])
   have htel := hid (show Rows5 w.heap.size wr u5 u6 (telOf s) by rw [hW.done.1]; exact hR)
   have hB2 := hid hB
   clear hR hB hW hlt
   go_wp2
   exact bodyPost_ret (v := .tuple #[u5, u6, .int .i64 (-1)]) (by simp [results, Tryd.results84, go_sem]; try decide) rfl ⟨_, _, by rw [hbad.out], htel.out, hB2.out⟩
end Go.Proofs.YtbabdhepnjacdaaDoor

/-
 What quarryref05.Bad answers.
-/
namespace Go.Proofs.YtbabdhepnjacdaaDoor
open Go.RowKit
set_option maxRecDepth 10000 in
theorem refBad_calls (s : ByteArray) (hs : s.size ≤ 4294967296) (w : World) :
  Calls Tryd.prog 81 #[.string s] w fun e w' => e = .returned (.int .i64 (badOf s)) ∧ Below w.heap.size w w' := by
 have hw := hid (walk5_calls s hs w)
 clear hs
 go_enter Tryd.func81, Tryd.ntmps81
 go_wp2_with fail
 refine Calls.mono hw.out ?_
 rintro e w1 ⟨v, u, rfl, -, hb⟩
 have hb' := hid hb
 clear hb hw
 go_wp2
 go_ret
 exact ⟨rfl, hb'.out⟩
end Go.Proofs.YtbabdhepnjacdaaDoor

/-
 What a number's text is, and what decimal it is of (mathematics alone).
-/
namespace Go.Proofs.YtbabdhepnjacdaaDoor
open Go.RowKit
/-- The byte at a place; 0 beyond the end. -/
def lk (s : ByteArray) (i : Nat) : Nat := if h : i < s.size then (s[i]'h).toNat else 0
/-- Is it a digit? -/
def dgB (x : Nat) : Bool := decide (48 ≤ x ∧ x ≤ 57)
def rnF (s : ByteArray) : Nat → Nat → Nat
 | 0, a => a
 | n + 1, a => if dgB (lk s a) then rnF s n (a + 1) else a
/-- The place behind all digits from a place on. -/
def rn (s : ByteArray) (a : Nat) : Nat := rnF s (s.size - a) a
/-- The parts of a number's text. -/
structure Num where
 neg : Bool
 wh : ByteArray
 be : ByteArray
 dn : Bool
 pw : ByteArray
/-- Where the whole part begins and ends; where the part behind the point ends; where the exponent's digits begin. -/
def scA (s : ByteArray) (p : Nat) : Nat := if lk s p = 45 then p + 1 else p
def scB (s : ByteArray) (p : Nat) : Nat := if lk s (scA s p) = 48 then scA s p + 1 else rn s (scA s p)
def scC (s : ByteArray) (p : Nat) : Nat := if lk s (scB s p) = 46 then rn s (scB s p + 1) else scB s p
def scF (s : ByteArray) (p : Nat) : Nat := if lk s (scC s p + 1) = 43 ∨ lk s (scC s p + 1) = 45 then scC s p + 2 else scC s p + 1
/-- Is there an exponent? -/
def scX (s : ByteArray) (p : Nat) : Bool := decide (lk s (scC s p) = 101 ∨ lk s (scC s p) = 69)
def scH (s : ByteArray) (p : Nat) : Nat := if scX s p then rn s (scF s p) else scC s p
def scNeg (s : ByteArray) (p : Nat) : Bool := decide (lk s p = 45)
def scDn (s : ByteArray) (p : Nat) : Bool := scX s p && decide (lk s (scC s p + 1) = 45)
def scBe (s : ByteArray) (p : Nat) : ByteArray := if lk s (scB s p) = 46 then s.extract (scB s p + 1) (scC s p) else ⟨#[]⟩
def scPw (s : ByteArray) (p : Nat) : ByteArray := if scX s p then s.extract (scF s p) (scH s p) else ⟨#[]⟩
/-- The parts (none: something is wanting), and the place behind them (the place of the byte that can't stand there). -/
def scanS (s : ByteArray) (p : Nat) : Option Num × Nat :=
 if dgB (lk s (scA s p)) = false then (none, scA s p)
 else if lk s (scB s p) = 46 ∧ dgB (lk s (scB s p + 1)) = false then (none, scB s p + 1)
 else if scX s p = true ∧ dgB (lk s (scF s p)) = false then (none, scF s p)
 else (some ⟨scNeg s p, s.extract (scA s p) (scB s p), scBe s p, scDn s p, scPw s p⟩, scH s p)
end Go.Proofs.YtbabdhepnjacdaaDoor

/-
 ScopeKit, DecForm, DecScan, DecWorth, DecRead, one behind the other.
-/
/- A scope with several labels: what holds at each of them, and a number that every way from label to label lowers. -/
namespace Go.Proofs.YtbabdhepnjacdaaDoor
open Go.RowKit
section
variable {P : Program} {a : Act} {w : World} {Q : Exit → Act → World → Prop}
end
end Go.Proofs.YtbabdhepnjacdaaDoor
/- What decimal.Formed and the reference's Formed answer. -/
namespace Go.Proofs.YtbabdhepnjacdaaDoor
open Go.RowKit Go.Shelf
end Go.Proofs.YtbabdhepnjacdaaDoor
/- What decimal.scan answers. -/
namespace Go.Proofs.YtbabdhepnjacdaaDoor
open Go.RowKit Go.Shelf
section
variable {w0 : World} {b : Nat} {n : Bool} {t1 t2 : ByteArray} {d : Bool} {t3 : ByteArray} {w : World}
end
/-! What holds at the labels. -/
section
variable (s : ByteArray) (p b : Nat) (w0 : World)
end
end Go.Proofs.YtbabdhepnjacdaaDoor
/- What decimal.power answers. -/
namespace Go.Proofs.YtbabdhepnjacdaaDoor
open Go.RowKit Go.Shelf
/-! worth -/
section
variable {w0 : World} {b : Nat} {n : Bool} {t : ByteArray} {x : Int} {w w' : World}
end
theorem data_append (a b : ByteArray) : (a ++ b).data.toList = a.data.toList ++ b.data.toList := by
 rw [ByteArray.data_append]; simp
section
variable {w0 : World} {ng : Bool} {t1 t2 : ByteArray} {dn : Bool} {t : ByteArray} {w w' : World}
end
end Go.Proofs.YtbabdhepnjacdaaDoor
/- What decimal.Read and decimal.Of answer. -/
namespace Go.Proofs.YtbabdhepnjacdaaDoor
open Go.RowKit Go.Shelf
end Go.Proofs.YtbabdhepnjacdaaDoor

/-
 What the reference's scan answers.
-/
namespace Go.Proofs.YtbabdhepnjacdaaDoor
open Go.RowKit Go.Shelf
section
variable {w0 : World} {n : Bool} {t1 t2 t3 : ByteArray} {w : World}
end
/-- The exponent with its sign. -/
def scEx (s : ByteArray) (p : Nat) : ByteArray := if scX s p then s.extract (scC s p + 1) (scH s p) else ⟨#[]⟩
/-- What the reference's scan tells. -/
def RsT (s : ByteArray) (p : Nat) (n : Bool) (t1 t2 t3 : ByteArray) (en : Nat) (ok : Bool) : Prop :=
 en = (scanS s p).2 ∧ (ok = false → (scanS s p).1 = none) ∧ (ok = true → ∃ N, (scanS s p).1 = some N ∧ n = N.neg ∧ t1 = N.wh ∧ t2 = N.be ∧ t3 = scEx s p)
theorem RsT.no {s : ByteArray} {p : Nat} {n : Bool} {t1 t2 t3 : ByteArray} {en : Nat} (h : scanS s p = (none, en)) : RsT s p n t1 t2 t3 en false := by
 exact ⟨by rw [h], (fun _ => by rw [h]), (fun h => by cases h)⟩
end Go.Proofs.YtbabdhepnjacdaaDoor
