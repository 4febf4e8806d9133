/-
  Texts of mine that others lean on, one behind the other.
-/
import Derived.Test.YtkejlejhnnjdkaaGreatDoorPack1
import Derived.Lib.ConvBytes
import Derived.Laws.AppendOwn
import Derived.Test.YtkejlejhnnjdkaaGreatDoorPack7
import Derived.Test.YtkejlejhnnjdkaaGreatDoorPack6
/-
 What keeps a row.
-/
namespace Go.Proofs.YtkejlejhnnjdkaaGreatDoor
open Go.RowKit
theorem bytes_below (w : World) (e : TypeId) (s : ByteArray) : Below w.heap.size w (Lib.bytesWorld w e s) :=
 ⟨rfl, rfl, rfl, by rw [Lib.bytesWorld_size]; omega, fun k hk => Lib.bytesWorld_at_old w e s k hk⟩
/-- A row is kept where all that was there is. -/
theorem row_below {w w' : World} {B n : Nat} {e : TypeId} {v : Value} {xs : List Value} (h : w.ownsRow B e 1 v n xs) (hb : Below w.heap.size w w') : w'.ownsRow B e 1 v n xs := by
 obtain ⟨h1, h2 | ⟨g, cap, cur, h3, h4, h5, h6⟩⟩ := h
 ·exact ⟨h1, .inl h2⟩
 ·exact ⟨h1, .inr ⟨g, cap, cur, h3, h4, (hb.block g (Array.getElem?_eq_some_iff.1 h5).1).trans h5, h6⟩⟩
/-- A row of other elements isn't the one that grows. -/
theorem row_otherK {w w' : World} {B C n m : Nat} {e f : TypeId} {v u : Value} {xs ys : List Value} (hef : e ≠ f) (h : w.ownsRow B e 1 v n xs) (k : w.ownsRow C f 1 u m ys) (hg : w.grownBy w' u.ownBlock) : w'.ownsRow B e 1 v n xs := by
 obtain ⟨h1, h2 | ⟨g, cap, cur, h3, h4, h5, h6⟩⟩ := h
 ·exact ⟨h1, .inl h2⟩
 ·refine ⟨h1, .inr ⟨g, cap, cur, h3, h4, (hg.block g (Array.getElem?_eq_some_iff.1 h5).1 ?_).trans h5, h6⟩⟩
  intro hgu
  obtain ⟨_, ⟨rfl, _⟩ | ⟨g', _, cur', rfl, _, k5, _⟩⟩ := k
  ·cases hgu
  ·have : g = g' := by simpa [Value.ownBlock] using hgu
   subst this
   rw [h5] at k5
   simp at k5
   exact hef k5.2
end Go.Proofs.YtkejlejhnnjdkaaGreatDoor

/-
 What quarryref05.Walk answers.
-/
namespace Go.Proofs.YtkejlejhnnjdkaaGreatDoor
open Go.RowKit
def ints5 (L : List Nat) : List Value := L.map fun p => .int .i64 ((p : Nat) : Int)
def runes5 (L : List Nat) : List Value := L.map fun p => .int .i32 ((p : Nat) : Int)
theorem ints5_snoc (L : List Nat) (p : Nat) : ints5 (L ++ [p]) = ints5 L ++ [.int .i64 ((p : Nat) : Int)] := by simp [ints5]
theorem runes5_snoc (L : List Nat) (p : Nat) : runes5 (L ++ [p]) = runes5 L ++ [.int .i32 ((p : Nat) : Int)] := by simp [runes5]
/-- Two rows hold the places and the characters. -/
def Rows5 (B : Nat) (w : World) (v u : Value) (L : List (Nat × Nat)) : Prop := w.ownsRow B 3 1 v L.length (ints5 (L.map (·.1))) ∧ w.ownsRow B 21 1 u L.length (runes5 (L.map (·.2)))
theorem infoI5 : (Tryz.prog.info? 3).map (fun i => (i.zero, i.size, i.bytes)) = some (some (.int .i64 0), 1, 8) := by kernel_rfl
theorem infoR5 : (Tryz.prog.info? 21).map (fun i => (i.zero, i.size, i.bytes)) = some (some (.int .i32 0), 1, 4) := by kernel_rfl
/-- What stands within the loop over one form. -/
def Inner (s : ByteArray) (p : Nat) (B : Nat) (w0 : World) (v u : Value) (n : Nat) (whole : Bool) (wr : World) : Prop :=
 ∃ (b : List Nat) (q : Q5) (r : Nat) (pre : List (Nat × Nat)), Rows5 B wr v u pre ∧ Below B w0 wr ∧
  ((whole = false ∧ n = b.length + 1 ∧ (b = [] → p < s.size) ∧ WalkAt s p (p + b.length) b q r pre) ∨ (whole = true ∧ 2 ≤ n ∧ b = [] ∧ WalkAt s (p + n - 1) (p + n - 1) b q r pre))
set_option maxRecDepth 10000 in
set_option maxHeartbeats 2000000 in
theorem walk5_calls (s : ByteArray) (hs : s.size ≤ 4294967296) (w : World) :
  Calls Tryz.prog 119 #[.string s] w fun e w' => ∃ v u, e = .returned (.tuple #[v, u, .int .i64 (badOf s)]) ∧ Rows5 w.heap.size w' v u (telOf s) ∧ Below w.heap.size w w' := by
 obtain ⟨i0, hi, hz0, hz1, hz2⟩ := info_parts infoI5
 obtain ⟨j0, hj, hy0, hy1, hy2⟩ := info_parts infoR5
 go_enter Tryz.func119, Tryz.ntmps119
 go_wp2
 go_loopw [5, 6, 7] (fun v u ff wr => ∃ (p r : Nat) (q : Q5) (pre : List (Nat × Nat)), ff = .int .i64 (p : Int) ∧ Rows5 w.heap.size wr v u pre ∧ Below w.heap.size w wr ∧ WalkAt s p p [] q r pre) (fun _ _ ff _ => s.size - (intOf ff).toNat)
 case atStart => exact ⟨0, 0, s5.q, [], rfl, ⟨World.ownsRow_nil _ _ _ _, World.ownsRow_nil _ _ _ _⟩, Below.refl _ _, WalkAt.start s⟩
 case round =>
  obtain ⟨p, r, q, pre, rfl, hR, hB, hW⟩ := hrel
  have hps := hW.2.1
  by_cases hlt : p < s.size
  ·have hli : (p : Int) < (s.size : Int) := by omega
   have hin := hid (show Inner s p w.heap.size w u5 u6 1 false wr from ⟨[], q, r, pre, hR, hB, .inl ⟨rfl, rfl, fun _ => hlt, hW⟩⟩)
   clear hR hB hW
   go_wp2
   go_loopw [5, 6, 8, 9] (fun v u nn wh wr => ∃ (n : Nat) (whole : Bool), nn = .int .i64 (n : Int) ∧ wh = .bool whole ∧ Inner s p w.heap.size w v u n whole wr) (fun _ _ nn _ _ => 6 - (intOf nn).toNat)
   case atStart => exact ⟨1, false, rfl, rfl, hin.out⟩
   case round =>
    obtain ⟨n, whole, rfl, rfl, hI⟩ := hrel
    clear hin
    obtain ⟨b, q, r, pre, hR, hB, ⟨rfl, hn, hp, hW⟩ | ⟨rfl, hn, hb, hW⟩⟩ := hI
    ·have hbl := form_len hW.2.2.2.1
     have hile := hW.2.1
     obtain ⟨i, hieq⟩ : ∃ i : Nat, i = p + b.length := ⟨_, rfl⟩
     rw [← hieq] at hW hile
     have hni : (p : Int) + (n : Int) = (i : Int) + 1 := by omega
     have hni' : p + n = i + 1 := by omega
     have hn4 : n ≤ 4 := by omega
     have hn' := hid hn
     have hp' := hid hp
     have hieq' := hid hieq
     have hR' := hid hR
     have hB' := hid hB
     have hW' := hid hW
     clear hn hp hieq hR hB hW
     by_cases hend : i = s.size
     ·have hgt : (s.size : Int) < (i : Int) + 1 := by omega
      have hbad := hid (show badOf s = (s.size : Int) by
       have h := hW'.out
       rw [hend] at h
       rw [h.done.2, if_neg]
       intro k
       have := (form_nil h.2.2.2.1).2 k
       have := hp'.out this
       have := hieq'.out
       simp_all)
      have htel := hid (show Rows5 w.heap.size wr u5 u6 (telOf s) by
       have h := hW'.out
       rw [hend] at h
       rw [h.done.1]
       exact hR'.out)
      clear hend
      go_wp2
      exact bodyPost_ret (v := .tuple #[u5, u6, .int .i64 (s.size : Int)]) (by simp [results, Tryz.results119, go_sem]; try decide) rfl ⟨_, _, by rw [hbad.out], htel.out, hB'.out⟩
     ·have hgt : ¬ (s.size : Int) < (i : Int) + 1 := by omega
      have hilt : i < s.size := by omega
      have hsl : i + 1 ≤ s.size := hilt
      obtain ⟨E, hE⟩ : ∃ E : ByteArray, s.extract p (i + 1) = E := ⟨_, rfl⟩
      have hbE := hid (show byts E = b ++ [byt s i] by
       rw [← hE, byts_extract, show i + 1 - p = b.length + 1 by have := hieq'.out; omega, List.take_add_one, ← hW'.out.2.2.1, List.getElem?_drop, ← hieq'.out, byts_get s i hilt]
       rfl)
      have hEs := hid (show E.size = n by rw [← byts_length, hbE.out, List.length_append, hn'.out]; rfl)
      have hcv := Lib.run_convert_string_bytes (P := Tryz.prog) wr 9 52 5 E Tryz.underlying9 Tryz.underlying52 Tryz.underlying5
      rw [hEs.out] at hcv
      obtain ⟨W1, hW1⟩ : ∃ W1, Lib.bytesWorld wr 5 E = W1 := ⟨_, rfl⟩
      rw [hW1] at hcv
      have hbel : Below wr.heap.size wr W1 := by rw [← hW1]; exact bytes_below _ _ _
      have hcell : ∀ (j y : Nat), (b ++ [byt s i])[j]? = some y → W1.cell? ⟨wr.heap.size, j, none⟩ = some (.int .u8 (y : Int)) ∧ y < 256 := by
       intro j y hj
       rw [← hbE.out] at hj
       have hjl : j < E.size := by rw [← byts_length]; exact (List.getElem?_eq_some_iff.1 hj).1
       rw [byts_get E j hjl] at hj
       cases hj
       rw [← hW1]
       exact ⟨Lib.bytesWorld_cell wr 5 E j hjl, byt_lt _ _⟩
      obtain ⟨x, t, hxt⟩ : ∃ x t, b ++ [byt s i] = x :: t := by cases b <;> exact ⟨_, _, rfl⟩
      have htl : t.length + 1 = n := by have := congrArg List.length hxt; rw [List.length_append] at this; simp at this; have := hn'.out; omega
      rw [hxt] at hcell
      obtain ⟨hc0, hx⟩ := hcell 0 x rfl
      have hbg := hid (begins_calls x t hx (by omega) wr.heap.size (grownCap wr n 0 5) W1 hc0 (fun j y hj => hcell (j + 1) y hj))
      rw [htl] at hbg
      have hbel' := hid hbel
      have hxt' := hid hxt
      have hx' := hid hx
      have htl' := hid htl
      have hend' := hid hend
      generalize grownCap wr n 0 5 = cap at hcv hbg
      clear hW1 hbel hcell hc0 hx hxt htl hend hilt
      go_wp2_with fail
      refine Calls.mono hbg.out ?_
      rintro e w1 ⟨hV, hw1⟩
      obtain ⟨ok, rr, al, rfl, hok, hrr, hal⟩ := hV
      rw [hw1]
      clear hw1 hbg hcv
      have hR1 := hid (show Rows5 w.heap.size W1 u5 u6 pre from ⟨row_below hR'.out.1 hbel'.out, row_below hR'.out.2 hbel'.out⟩)
      have hB2 := hid (hB'.out.trans (hbel'.out.mono hB'.out.size))
      have hWs := hid (show w.heap.size ≤ W1.heap.size from Nat.le_trans hB'.out.size hbel'.out.size)
      have hpl := hid (show pre.length ≤ 4294967296 by have := hW'.out.2.2.2.2.2.2; have := hieq'.out; omega)
      cases hst : stp q (byt s i) with
      | none =>
       have hno := begins_none hW'.out.2.2.2.1 (byt_lt s i) hst x t hxt'.out hx'.out
       obtain rfl : ok = false := by cases ok; rfl; exact absurd (hok.1 rfl) hno
       have hilt : i < s.size := hsl
       have hbad := hid (hW'.out.bad hilt hst).1
       have htel := hid (show Rows5 w.heap.size W1 u5 u6 (telOf s) by rw [(hW'.out.bad hilt hst).2]; exact hR1.out)
       clear hok hrr hal hst hno
       go_wp2
       exact bodyPost_ret (v := .tuple #[u5, u6, .int .i64 (i : Int)]) (by simp [results, Tryz.results119, go_sem]; try decide) rfl ⟨_, _, by rw [hbad.out], htel.out, hB2.out⟩
      | some q' =>
       have hsome := begins_some hW'.out.2.2.2.1 (byt_lt s i) hst x t hxt'.out hx'.out
       obtain rfl : ok = true := hok.2 hsome.1
       have hal2 := hal rfl
       clear hal
       obtain ⟨c, rfl, hc1, hc2⟩ := hrr rfl
       have hilt : i < s.size := hsl
       have hnx := hid (hW'.out.next hilt hst)
       by_cases hl : q'.left = 0
       ·have e1 := hsome.2.1.2 hl
        have e2 := hsome.2.2 hl
        obtain rfl : al = true := by rw [hal2]; exact decide_eq_true (by have := htl'.out; omega)
        obtain rfl : c = nextR b r (byt s i) q'.left := by omega
        have hnx1 := hid (hnx.out.1 hl)
        generalize nextR b r (byt s i) q'.left = c at *
        clear hok hrr hal2 hst hsome hl e1 e2 hnx hc1 hc2 hilt
        have hr1 := hR1.out.1
        have hr1' := hid hr1
        clear hr1
        go_wp2_with (first
         | (at_builtin; refine wpList_append_own _ rfl _ _ 57 rfl w.heap.size 3 i0 (.int .i64 0) 1 8 Tryz.underlying57 hi hz0 hz1 hz2  rfl (by decide) _ _ _ rfl (World.ownsRow.alloc hr1'.out _) ⟨W1.heap.size, 0, none⟩ 1 1 [.int .i64 (p : Int)] rfl rfl ?c1 ?c2 ?c3 ?c4 ?c5 ?_)
         | go_in)
        case c1 =>
         intro j u hj
         match j, hj with
         | 0, hj => simp at hj; subst hj; simp [Addr.add]
        case c2 => intro u hu; simp at hu; subst hu; rfl
        case c3 => unfold maxLen; have := hpl.out; omega
        case c4 => have := hpl.out; omega
        case c5 => have := hWs.out; simp; omega
        ·intro v' w2 hown1 hg1 _
         have hl2 := hid (row_otherK (by decide) (World.ownsRow.alloc hR1.out.2 (.cells #[.int .i64 (p : Int)] 3)) (World.ownsRow.alloc hr1'.out (.cells #[.int .i64 (p : Int)] 3)) hg1)
         have hb1 := hid (show Below w.heap.size w w2 from (hB2.out.alloc hWs.out _).grown hg1 (by simp; have := hWs.out; omega) (fun k e => (hr1'.out.lt k e).1))
         have hown1' := hid hown1
         have hw2s := hid hb1.out.size
         clear hown1 hg1
         go_wp2_with (first
          | (at_builtin; refine wpList_append_own _ rfl _ _ 140 rfl w.heap.size 21 j0 (.int .i32 0) 1 4 Tryz.underlying140 hj hy0 hy1 hy2  rfl (by decide) _ _ _ rfl (World.ownsRow.alloc hl2.out _) ⟨w2.heap.size, 0, none⟩ 1 1 [.int .i32 (c : Int)] rfl rfl ?c1 ?c2 ?c3 ?c4 ?c5 ?_)
          | go_in)
         case c1 =>
          intro j u hj
          match j, hj with
          | 0, hj => simp at hj; subst hj; simp [Addr.add]
         case c2 => intro u hu; simp at hu; subst hu; rfl
         case c3 => unfold maxLen; have := hpl.out; omega
         case c4 => have := hpl.out; omega
         case c5 => have := hw2s.out; simp; omega
         ·intro v2 w3 hown2 hg2 _
          have ha3 := hid (row_otherK (by decide) (World.ownsRow.alloc hown1'.out (.cells #[.int .i32 (c : Int)] 21)) (World.ownsRow.alloc hl2.out (.cells #[.int .i32 (c : Int)] 21)) hg2)
          have hb3 := hid (show Below w.heap.size w w3 from (hb1.out.alloc hw2s.out _).grown hg2 (by simp; have := hw2s.out; omega) (fun k e => (hl2.out.lt k e).1))
          have hR3 := hid (show Rows5 w.heap.size w3 v' v2 (pre ++ [(p, c)]) by
           refine ⟨?_, ?_⟩
           ·rw [List.map_append, List.length_append]
            show World.ownsRow _ _ _ _ _ _ (ints5 (pre.map (·.1) ++ [p]))
            rw [ints5_snoc]
            exact ha3.out
           ·rw [List.map_append, List.length_append]
            show World.ownsRow _ _ _ _ _ _ (runes5 (pre.map (·.2) ++ [c]))
            rw [runes5_snoc]
            exact hown2)
          clear hown2 hg2
          go_wp2
          go_roundw
          case rel => exact ⟨n + 1, true, by simp, rfl, [], q', c, pre ++ [(p, c)], hR3.out, hb3.out, .inr ⟨rfl, by have := hn'.out; omega, rfl, by rw [show p + (n + 1) - 1 = i + 1 by omega]; exact hnx1.out⟩⟩
          case measure => simp [intOf]; omega
       ·obtain rfl : al = false := by rw [hal2]; exact decide_eq_false (fun k => hl (hsome.2.1.1 (by have := htl'.out; omega)))
        have hnx1 := hid (hnx.out.2 hl)
        generalize nextR b r (byt s i) q'.left = c2 at *
        clear hok hrr hal2 hst hsome hl hnx hc1 hc2 hilt
        go_wp2
        go_roundw
        case rel => exact ⟨n + 1, false, by simp, rfl, b ++ [byt s i], q', c2, pre, hR1.out, hB2.out, .inl ⟨rfl, by rw [List.length_append, hn'.out]; rfl, fun k => by simp at k, by rw [List.length_append, ← Nat.add_assoc, ← hieq'.out]; exact hnx1.out⟩⟩
        case measure => simp [intOf]; omega
    ·subst hb
     have hn' := hid hn
     have hW' := hid hW
     have hR' := hid hR
     have hB' := hid hB
     have hi2 := hW.2.1
     have hq2 : (p : Int) + (n : Int) ≤ 9223372036854775807 := by omega
     clear hR hB hW
     go_wp2
     go_roundw
     case rel => exact ⟨p + n - 1, r, q, pre, by congr 1; omega, hR'.out, hB'.out, hW'.out⟩
     case measure => simp [intOf]; omega
  ·obtain rfl : p = s.size := by omega
   have hbad := hid (show badOf s = -1 by rw [hW.done.2, if_pos (show q.left = 0 from hW.2.2.2.1)])
   have htel := hid (show Rows5 w.heap.size wr u5 u6 (telOf s) by rw [hW.done.1]; exact hR)
   have hB2 := hid hB
   clear hR hB hW hlt
   go_wp2
   exact bodyPost_ret (v := .tuple #[u5, u6, .int .i64 (-1)]) (by simp [results, Tryz.results119, go_sem]; try decide) rfl ⟨_, _, by rw [hbad.out], htel.out, hB2.out⟩
end Go.Proofs.YtkejlejhnnjdkaaGreatDoor

/-
 What quarryref05.Bad answers.
-/
namespace Go.Proofs.YtkejlejhnnjdkaaGreatDoor
open Go.RowKit
set_option maxRecDepth 10000 in
theorem refBad_calls (s : ByteArray) (hs : s.size ≤ 4294967296) (w : World) :
  Calls Tryz.prog 83 #[.string s] w fun e w' => e = .returned (.int .i64 (badOf s)) ∧ Below w.heap.size w w' := by
 have hw := hid (walk5_calls s hs w)
 clear hs
 go_enter Tryz.func83, Tryz.ntmps83
 go_wp2_with fail
 refine Calls.mono hw.out ?_
 rintro e w1 ⟨v, u, rfl, -, hb⟩
 have hb' := hid hb
 clear hb hw
 go_wp2
 go_ret
 exact ⟨rfl, hb'.out⟩
end Go.Proofs.YtkejlejhnnjdkaaGreatDoor

/-
 What the reference's Unescape answers.
-/
namespace Go.Proofs.YtkejlejhnnjdkaaGreatDoor
open Go.RowKit Go.Shelf
/-- What Unescape answers. -/
def unS (s : ByteArray) : ByteArray × Int := if 0 ≤ badOf s then (⟨#[]⟩, 50) else match unescL (byts s) with
 | none => (⟨#[]⟩, 150)
 | some o => (mkS o, 0)
def strSz : Value → Nat
 | .string r => r.size
 | _ => 0
theorem rowT_kept {w w' : World} {B n : Nat} {v : Value} {xs : List Value} (h : w.ownsRow B 5 1 v n xs) (hb : Below w.heap.size w w') : w'.ownsRow B 5 1 v n xs :=
 h.kept (grown_of_below hb) (by cases h : v.ownBlock <;> simp)
/-- What holds between two pieces. -/
def UnR (s r : ByteArray) (o : List Nat) : Prop := unescL (byts s) = (unescL (byts r)).map (o ++ ·) ∧ (∀ x ∈ o, x < 256) ∧ o.length + r.size ≤ s.size
theorem UnR.step {s r r' : ByteArray} {o o2 : List Nat} {k : Nat} (h : UnR s r o) (hr : 0 < r.size) (hs : stepL (byts r) = some (k, o2)) (hr' : byts r' = (byts r).drop k) : UnR s r' (o ++ o2) ∧ r'.size < r.size := by
 obtain ⟨h1, h2, h3⟩ := h
 have hne : byts r ≠ [] := fun e => by
  have := byts_length r
  rw [e] at this
  simp at this
  omega
 obtain ⟨k1, k2, k3, k4⟩ := stepL_some hne (byts_lt r) hs
 have hl : r'.size = r.size - k := by rw [← byts_length, hr', List.length_drop, byts_length]
 rw [byts_length] at k2
 refine ⟨⟨?_, ?_, ?_⟩, by omega⟩
 ·rw [h1, unescL_some hne (byts_lt r) hs, hr', Option.map_map]
  congr 1
  funext x
  simp
 ·intro x hx
  rcases List.mem_append.1 hx with hx | hx
  ·exact h2 x hx
  ·exact k4 x hx
 ·rw [List.length_append]
  omega
theorem byts_from (r : ByteArray) (k : Nat) : byts (r.extract k r.size) = (byts r).drop k ∧ (r.extract k r.size).size = r.size - k := by
 have h : byts (r.extract k r.size) = (byts r).drop k := by
  rw [byts_extract, List.take_of_length_le (by rw [List.length_drop, byts_length]; exact Nat.le_refl _)]
 exact ⟨h, by rw [← byts_length, h, List.length_drop, byts_length]⟩
theorem next_L (s : ByteArray) : nextP (bAt s) s.size = nextL (byts s) := by
 unfold nextL
 rw [bAt_lb, byts_length]
set_option maxRecDepth 10000 in
set_option maxHeartbeats 4000000 in
theorem refUn_calls (s : ByteArray) (hs : s.size ≤ 1048576) (T : ByteArray) (E : Int) (hU : Hid (unS s = (T, E))) (w : World) :
  Calls Tryz.prog 58 #[.string s] w fun e w' => e = .returned (.tuple #[.string T, .int .i64 E]) ∧ Below w.heap.size w w' := by
 have hbad := hid (refBad_calls s (by omega) w)
 obtain ⟨B, hB⟩ : ∃ B, Hid (badOf s = B) := ⟨_, rfl⟩
 rw [hB.out] at hbad
 go_enter Tryz.func58, Tryz.ntmps58
 go_wp2_with fail
 refine Calls.mono hbad.out ?_
 rintro e w1 ⟨rfl, hb1⟩
 have hb1' := hid hb1
 clear hbad hb1
 by_cases hB0 : 0 ≤ B
 ·have hT : Hid (T = ⟨#[]⟩ ∧ E = 50) := by
   have h := hU.out
   unfold unS at h
   rw [hB.out, if_pos hB0] at h
   simp only [Prod.mk.injEq] at h
   exact ⟨h.1.symm, h.2.symm⟩
  obtain ⟨rfl, rfl⟩ := hT.out
  clear hT hU
  go_wp2
  exact bodyPost_ret (v := .tuple #[.string ⟨#[]⟩, .int .i64 50]) (by simp [results, Tryz.results58, go_sem]; try decide) rfl ⟨rfl, hb1'.out⟩
 ·have hB1 : decide (0 ≤ B) = false := by simp; omega
  have hUn : Hid ((match unescL (byts s) with | none => (⟨#[]⟩, 150) | some o => (mkS o, 0)) = (T, E)) := by
   have h := hU.out
   unfold unS at h
   rw [hB.out, if_neg hB0] at h
   exact h
  clear hB0 hU
  go_wp2
  go_loopw [0, 4, 5, 6, 7, 8] (fun r0 v _ _ _ _ wr => ∃ (r : ByteArray) (o : List Nat), r0 = .string r ∧ Hid (UnR s r o) ∧ Hid (wr.ownsRow w1.heap.size 5 1 v o.length (byC o)) ∧ Hid (Below w1.heap.size w1 wr)) (fun r0 _ _ _ _ _ _ => strSz r0)
  case atStart => exact ⟨s, [], rfl, hid ⟨by simp, by simp, by simp⟩, hid (World.ownsRow_nil _ _ _ _), hid (Below.refl _ _)⟩
  case round =>
   obtain ⟨r, o, rfl, hR, hv, hb⟩ := hrel
   have hrl : r.size ≤ 1048576 := by have := hR.out.2.2; omega
   have hol : o.length ≤ 1048576 := by have := hR.out.2.2; omega
   by_cases hr0 : 0 < r.size
   ·have hri : (0 : Int) < (r.size : Int) := by omega
    have hne : Hid (byts r ≠ []) := fun e => by
     have := byts_length r
     rw [e] at this
     simp at this
     omega
    have hnx := hid (next_calls r hr0 (by omega) wr)
    rw [next_L] at hnx
    obtain ⟨sz, mn, fr, hP⟩ : ∃ sz mn fr, Hid (nextL (byts r) = ⟨sz, mn, fr⟩) := ⟨_, _, _, rfl⟩
    have hps := nextL_size hne.out (byts_lt r)
    rw [hP.out, byts_length] at hps
    rw [hP.out] at hnx
    have hsz : sz ≤ r.size := hps.1
    have hmn : mn < 65536 := hps.2
    clear hps
    unfold pcV at hnx
    dsimp only at hnx
    go_wp2_with fail
    refine Calls.mono hnx.out ?_
    rintro e w2 ⟨rfl, hb2⟩
    have hv2 := hid (rowT_kept hv.out hb2)
    have hbb2 := hid (hb.out.trans (hb2.mono hb.out.size))
    clear hnx hb2 hv hb
    have a5 := At.new w2 #[.int .i64 (sz : Int), .int .i64 (mn : Int), .bool fr] 112
    have c0 := a5.cell 0
    have c1 := a5.cell 1
    have c2 := a5.cell 2
    simp only [List.getElem?_toArray, List.getElem?_cons_zero, List.getElem?_cons_succ] at c0 c1 c2
    have a5' := hid a5
    have al := hid ((Below.refl _ w2).alloc (Nat.le_refl _) (.cells #[.int .i64 (sz : Int), .int .i64 (mn : Int), .bool fr] 112))
    clear a5
    by_cases hz0 : sz = 0
    ·subst hz0
     have hN : Hid (T = ⟨#[]⟩ ∧ E = 150) := by
      have h := hUn.out
      rw [hR.out.1, unescL_none hne.out (by unfold stepL; rw [hP.out, if_pos rfl])] at h
      simp only [Option.map_none, Prod.mk.injEq] at h
      exact ⟨h.1.symm, h.2.symm⟩
     obtain ⟨rfl, rfl⟩ := hN.out
     have hfin := hid ((hb1'.out.trans (hbb2.out.mono hb1'.out.size)).trans (al.out.mono (Nat.le_trans hb1'.out.size hbb2.out.size)))
     clear hN
     go_wp2
     exact bodyPost_ret (v := .tuple #[.string ⟨#[]⟩, .int .i64 150]) (by simp [results, Tryz.results58, go_sem]; try decide) rfl ⟨rfl, hfin.out⟩
    ·have hzi : ((sz : Int) == 0) = false := by simp; omega
     have hszi : (sz : Int) ≤ (r.size : Int) := by omega
     obtain ⟨r2, hr2⟩ : ∃ r2, r.extract sz r.size = r2 := ⟨_, rfl⟩
     have hr2b : Hid (byts r2 = (byts r).drop sz) := by show _ = _; rw [← hr2]; exact (byts_from r sz).1
     have hr2s : Hid (r2.size = r.size - sz) := by show _ = _; rw [← hr2]; exact (byts_from r sz).2
     obtain ⟨W3, hW3⟩ : ∃ W, w2.alloc (.cells #[.int .i64 (sz : Int), .int .i64 (mn : Int), .bool fr] 112) = W := ⟨_, rfl⟩
     rw [hW3] at c0 c1 c2 a5' al
     have hv3 := hid (rowT_kept hv2.out al.out)
     have hb3 := hid (hbb2.out.trans (al.out.mono hbb2.out.size))
     obtain ⟨b5, hb5⟩ : ∃ b, w2.heap.size = b := ⟨_, rfl⟩
     rw [hb5] at c0 c1 c2 a5'
     clear hv2 hbb2 al
     obtain ⟨hi, hHi⟩ : ∃ q, Hid (highP ⟨sz, mn, fr⟩ = q) := ⟨_, rfl⟩
     obtain ⟨lo, hLo⟩ : ∃ q, Hid (lowP ⟨sz, mn, fr⟩ = q) := ⟨_, rfl⟩
     have hhc := hid (fun (u : World) => high_calls sz mn fr hi hmn hHi u)
     have hlc := hid (fun (u : World) => low_calls sz mn fr lo hmn hLo u)
     cases hi with
     | true =>
      obtain ⟨rfl, p1, p2⟩ : fr = true ∧ 55296 ≤ mn ∧ mn ≤ 56319 := by
       have h := hHi.out
       unfold highP at h
       simp only [Bool.and_eq_true, decide_eq_true_eq] at h
       exact h
      go_wp2_with fail
      refine Calls.mono (hhc.out _) ?_
      rintro e wh ⟨rfl, hbq⟩
      replace a5' := hid (a5'.out.keptAll hbq)
      replace hv3 := hid (rowT_kept hv3.out hbq)
      replace hb3 := hid (hb3.out.trans (hbq.mono hb3.out.size))
      clear hbq c0 c1 c2
      have c0 := a5'.out.cell 0
      have c1 := a5'.out.cell 1
      have c2 := a5'.out.cell 2
      simp only [List.getElem?_toArray, List.getElem?_cons_zero, List.getElem?_cons_succ] at c0 c1 c2
      by_cases hr2p : 0 < r2.size
      ·have hr2l : r2.size ≤ 1048576 := by have := hr2s.out; omega
       have hqn := hid (fun (u : World) => next_calls r2 hr2p (by omega) u)
       obtain ⟨sq, mq, fq, hQ⟩ : ∃ sq mq fq, Hid (nextL (byts r2) = ⟨sq, mq, fq⟩) := ⟨_, _, _, rfl⟩
       rw [next_L, hQ.out] at hqn
       unfold pcV at hqn
       dsimp only at hqn
       have hqs : sq ≤ r2.size ∧ mq < 65536 := by
        have h := nextL_size (l := byts r2) (fun e => by
         have := byts_length r2
         rw [e] at this
         simp at this
         omega) (byts_lt r2)
        rw [hQ.out, byts_length] at h
        exact h
       have hsq := hqs.1
       have hmq := hqs.2
       clear hqs
       obtain ⟨lq, hLq⟩ : ∃ q, Hid (lowP ⟨sq, mq, fq⟩ = q) := ⟨_, rfl⟩
       have hqc := hid (fun (u : World) => low_calls sq mq fq lq hmq hLq u)
       have hr2i : (0 : Int) < (r2.size : Int) := by omega
       go_wp2_with fail
       refine Calls.mono (hqn.out _) ?_
       rintro e wn ⟨rfl, hbq⟩
       replace a5' := hid (a5'.out.keptAll hbq)
       replace hv3 := hid (rowT_kept hv3.out hbq)
       replace hb3 := hid (hb3.out.trans (hbq.mono hb3.out.size))
       clear hbq c0 c1 c2
       have c0 := a5'.out.cell 0
       have c1 := a5'.out.cell 1
       have c2 := a5'.out.cell 2
       simp only [List.getElem?_toArray, List.getElem?_cons_zero, List.getElem?_cons_succ] at c0 c1 c2
       go_wp2_with fail
       refine Calls.mono (hqc.out _) ?_
       rintro e wm ⟨rfl, hbq⟩
       replace a5' := hid (a5'.out.keptAll hbq)
       replace hv3 := hid (rowT_kept hv3.out hbq)
       replace hb3 := hid (hb3.out.trans (hbq.mono hb3.out.size))
       clear hbq c0 c1 c2
       have c0 := a5'.out.cell 0
       have c1 := a5'.out.cell 1
       have c2 := a5'.out.cell 2
       simp only [List.getElem?_toArray, List.getElem?_cons_zero, List.getElem?_cons_succ] at c0 c1 c2
       cases lq with
       | true =>
        obtain ⟨rfl, q1, q2⟩ : fq = true ∧ 56320 ≤ mq ∧ mq ≤ 57343 := by
         have h := hLq.out
         unfold lowP at h
         simp only [Bool.and_eq_true, decide_eq_true_eq] at h
         exact h
        have hsqi : (sq : Int) ≤ (r2.size : Int) := by omega
        obtain ⟨r3, hr3⟩ : ∃ r3, r2.extract sq r2.size = r3 := ⟨_, rfl⟩
        have hr3b : Hid (byts r3 = (byts r).drop (sz + sq)) := by
         show _ = _
         rw [← hr3, (byts_from r2 sq).1, hr2b.out, List.drop_drop]
        obtain ⟨MM, hMM⟩ : ∃ MM, Hid (65536 + (mn - 55296) * 1024 + (mq - 56320) = MM) := ⟨_, rfl⟩
        have hsum : (65536 : Int) + ((mn : Int) - 55296) * 1024 + (mq : Int) - 56320 = (MM : Int) := by have := hMM.out; omega
        have hMl : MM < 1114112 := by have := hMM.out; omega
        go_wp2_with fail
        refine Calls.mono (hqn.out _) ?_
        rintro e wz ⟨rfl, hbq⟩
        have d5 := (a5'.out.keptAll hbq).alloc (.cells #[.int .i64 (sq : Int), .int .i64 (mq : Int), .bool true] 112)
        have d7 := At.new wz #[.int .i64 (sq : Int), .int .i64 (mq : Int), .bool true] 112
        have al2 := (Below.refl _ wz).alloc (Nat.le_refl _) (.cells #[.int .i64 (sq : Int), .int .i64 (mq : Int), .bool true] 112)
        obtain ⟨W7, hW7⟩ : ∃ W, wz.alloc (.cells #[.int .i64 (sq : Int), .int .i64 (mq : Int), .bool true] 112) = W := ⟨_, rfl⟩
        rw [hW7] at d5 d7 al2
        replace hv3 := hid (rowT_kept (rowT_kept hv3.out hbq) al2)
        replace hb3 := hid ((hb3.out.trans (hbq.mono hb3.out.size)).trans (al2.mono (Nat.le_trans hb3.out.size hbq.size)))
        clear hbq c0 c1 c2 al2
        have c0 := d5.cell 0
        have c1 := d5.cell 1
        have c2 := d5.cell 2
        have k0 := d7.cell 0
        have k1 := d7.cell 1
        simp only [List.getElem?_toArray, List.getElem?_cons_zero, List.getElem?_cons_succ] at c0 c1 c2 k0 k1
        clear d5 d7
        have hch := hid (fun (u : World) => char_calls MM (hMl) u)
        obtain ⟨CL, hCL⟩ : ∃ CL, Hid (charL MM = CL) := ⟨_, rfl⟩
        rw [hCL.out] at hch
        have hCl : CL.length ≤ 4 := by rw [← hCL.out]; exact (charL_len _).2
        have hst : Hid (UnR s r3 (o ++ CL) ∧ r3.size < r.size) := hR.out.step hr0 (by unfold stepL; rw [hP.out]; dsimp only; rw [if_neg hz0, if_pos ⟨hHi.out, by rw [byts_length]; have h4 := hr2s.out; omega, by rw [← hr2b.out, hQ.out]; exact hLq.out⟩, ← hr2b.out, hQ.out]; dsimp only; rw [hMM.out, hCL.out]) hr3b.out
        go_wp2_with fail
        refine Calls.mono (hch.out _) ?_
        rintro e wc ⟨bc, rfl, hbc, hbq⟩
        replace hv3 := hid (rowT_kept hv3.out hbq)
        replace hb3 := hid (hb3.out.trans (hbq.mono hb3.out.size))
        have hbc' := hid hbc
        have hz := hid hb3.out.size
        obtain ⟨i0, hi0, hz0', hz1, hz2⟩ := info_parts infoU8
        have g0 := hid hz0'
        have g1 := hid hz1
        have g2 := hid hz2
        have g3 := hid hi0
        clear hbc hbq c0 c1 c2 k0 k1 hz0' hz1 hz2 hi0 hch
        go_wp2_with (first
         | (at_builtin; refine wpList_append_own _ rfl _ _ 52 rfl w1.heap.size 5 i0 (.int .u8 0) 1 1 Tryz.underlying52 g3.out g0.out g1.out g2.out rfl (by decide) _ _ _ rfl hv3.out ⟨bc, 0, none⟩ CL.length CL.length (byC CL) rfl (by rw [byC_len, Nat.mul_one]) (fun j u hj => by
           have e : (⟨bc, 0, none⟩ : Addr).add j = ⟨bc, j, none⟩ := by by_cases h : j = 0 <;> simp [Addr.add, h]
           rw [e, hbc'.out.cell j, List.getElem?_toArray]
           exact hj) (fun u hu => by
           unfold byC at hu
           simp only [List.mem_map] at hu
           obtain ⟨x, -, rfl⟩ := hu
           rfl) (by unfold maxLen; omega) (by omega) hz.out ?_)
         | go_in)
        intro v' w' hown1 hgrow _
        have hown2 : Hid (w'.ownsRow w1.heap.size 5 1 v' (o ++ CL).length (byC (o ++ CL))) := by
         rw [byC_app, List.length_append]
         exact hown1
        have hb4 := hid (hb3.out.grown hgrow hb3.out.size (fun b e => (hv3.out.lt b e).1))
        clear hown1 hgrow
        go_wp2
        go_roundw
        case rel => exact ⟨_, _, rfl, hid hst.out.1, hown2, hb4⟩
        case measure => exact hst.out.2
       | false =>
        go_wp2_with fail
        refine Calls.mono (hhc.out _) ?_
        rintro e wh2 ⟨rfl, hbq⟩
        replace a5' := hid (a5'.out.keptAll hbq)
        replace hv3 := hid (rowT_kept hv3.out hbq)
        replace hb3 := hid (hb3.out.trans (hbq.mono hb3.out.size))
        clear hbq c0 c1 c2
        have c0 := a5'.out.cell 0
        have c1 := a5'.out.cell 1
        have c2 := a5'.out.cell 2
        simp only [List.getElem?_toArray, List.getElem?_cons_zero, List.getElem?_cons_succ] at c0 c1 c2
        have hch := hid (fun (u : World) => char_calls 65533 (by decide) u)
        obtain ⟨CL, hCL⟩ : ∃ CL, Hid (charL 65533 = CL) := ⟨_, rfl⟩
        rw [hCL.out] at hch
        have hCl : CL.length ≤ 4 := by rw [← hCL.out]; exact (charL_len _).2
        have hst : Hid (UnR s r2 (o ++ CL) ∧ r2.size < r.size) := hR.out.step hr0 (by unfold stepL; rw [hP.out]; dsimp only; rw [if_neg hz0, if_neg (fun h => by have h3 := h.2.2; rw [← hr2b.out, hQ.out, hLq.out] at h3; cases h3), if_pos (.inl hHi.out), hCL.out]) hr2b.out
        go_wp2_with fail
        refine Calls.mono (hch.out _) ?_
        rintro e wc ⟨bc, rfl, hbc, hbq⟩
        replace hv3 := hid (rowT_kept hv3.out hbq)
        replace hb3 := hid (hb3.out.trans (hbq.mono hb3.out.size))
        have hbc' := hid hbc
        have hz := hid hb3.out.size
        obtain ⟨i0, hi0, hz0', hz1, hz2⟩ := info_parts infoU8
        have g0 := hid hz0'
        have g1 := hid hz1
        have g2 := hid hz2
        have g3 := hid hi0
        clear hbc hbq c0 c1 c2 hz0' hz1 hz2 hi0 hch
        go_wp2_with (first
         | (at_builtin; refine wpList_append_own _ rfl _ _ 52 rfl w1.heap.size 5 i0 (.int .u8 0) 1 1 Tryz.underlying52 g3.out g0.out g1.out g2.out rfl (by decide) _ _ _ rfl hv3.out ⟨bc, 0, none⟩ CL.length CL.length (byC CL) rfl (by rw [byC_len, Nat.mul_one]) (fun j u hj => by
           have e : (⟨bc, 0, none⟩ : Addr).add j = ⟨bc, j, none⟩ := by by_cases h : j = 0 <;> simp [Addr.add, h]
           rw [e, hbc'.out.cell j, List.getElem?_toArray]
           exact hj) (fun u hu => by
           unfold byC at hu
           simp only [List.mem_map] at hu
           obtain ⟨x, -, rfl⟩ := hu
           rfl) (by unfold maxLen; omega) (by omega) hz.out ?_)
         | go_in)
        intro v' w' hown1 hgrow _
        have hown2 : Hid (w'.ownsRow w1.heap.size 5 1 v' (o ++ CL).length (byC (o ++ CL))) := by
         rw [byC_app, List.length_append]
         exact hown1
        have hb4 := hid (hb3.out.grown hgrow hb3.out.size (fun b e => (hv3.out.lt b e).1))
        clear hown1 hgrow
        go_wp2
        go_roundw
        case rel => exact ⟨_, _, rfl, hid hst.out.1, hown2, hb4⟩
        case measure => exact hst.out.2
      ·have hr2z : r2.size = 0 := by omega
       have hr2i : decide ((0 : Int) < (r2.size : Int)) = false := decide_eq_false (by omega)
       have hr2j : decide (0 < r2.size) = false := decide_eq_false (by omega)
       go_wp2_with fail
       refine Calls.mono (hhc.out _) ?_
       rintro e wh2 ⟨rfl, hbq⟩
       replace a5' := hid (a5'.out.keptAll hbq)
       replace hv3 := hid (rowT_kept hv3.out hbq)
       replace hb3 := hid (hb3.out.trans (hbq.mono hb3.out.size))
       clear hbq c0 c1 c2
       have c0 := a5'.out.cell 0
       have c1 := a5'.out.cell 1
       have c2 := a5'.out.cell 2
       simp only [List.getElem?_toArray, List.getElem?_cons_zero, List.getElem?_cons_succ] at c0 c1 c2
       have hch := hid (fun (u : World) => char_calls 65533 (by decide) u)
       obtain ⟨CL, hCL⟩ : ∃ CL, Hid (charL 65533 = CL) := ⟨_, rfl⟩
       rw [hCL.out] at hch
       have hCl : CL.length ≤ 4 := by rw [← hCL.out]; exact (charL_len _).2
       have hst : Hid (UnR s r2 (o ++ CL) ∧ r2.size < r.size) := hR.out.step hr0 (by unfold stepL; rw [hP.out]; dsimp only; rw [if_neg hz0, if_neg (fun h => by have := h.2.1; have h4 := hr2s.out; rw [byts_length] at this; omega), if_pos (.inl hHi.out), hCL.out]) hr2b.out
       go_wp2_with fail
       refine Calls.mono (hch.out _) ?_
       rintro e wc ⟨bc, rfl, hbc, hbq⟩
       replace hv3 := hid (rowT_kept hv3.out hbq)
       replace hb3 := hid (hb3.out.trans (hbq.mono hb3.out.size))
       have hbc' := hid hbc
       have hz := hid hb3.out.size
       obtain ⟨i0, hi0, hz0', hz1, hz2⟩ := info_parts infoU8
       have g0 := hid hz0'
       have g1 := hid hz1
       have g2 := hid hz2
       have g3 := hid hi0
       clear hbc hbq c0 c1 c2 hz0' hz1 hz2 hi0 hch
       go_wp2_with (first
        | (at_builtin; refine wpList_append_own _ rfl _ _ 52 rfl w1.heap.size 5 i0 (.int .u8 0) 1 1 Tryz.underlying52 g3.out g0.out g1.out g2.out rfl (by decide) _ _ _ rfl hv3.out ⟨bc, 0, none⟩ CL.length CL.length (byC CL) rfl (by rw [byC_len, Nat.mul_one]) (fun j u hj => by
          have e : (⟨bc, 0, none⟩ : Addr).add j = ⟨bc, j, none⟩ := by by_cases h : j = 0 <;> simp [Addr.add, h]
          rw [e, hbc'.out.cell j, List.getElem?_toArray]
          exact hj) (fun u hu => by
          unfold byC at hu
          simp only [List.mem_map] at hu
          obtain ⟨x, -, rfl⟩ := hu
          rfl) (by unfold maxLen; omega) (by omega) hz.out ?_)
        | go_in)
       intro v' w' hown1 hgrow _
       have hown2 : Hid (w'.ownsRow w1.heap.size 5 1 v' (o ++ CL).length (byC (o ++ CL))) := by
        rw [byC_app, List.length_append]
        exact hown1
       have hb4 := hid (hb3.out.grown hgrow hb3.out.size (fun b e => (hv3.out.lt b e).1))
       clear hown1 hgrow
       go_wp2
       go_roundw
       case rel => exact ⟨_, _, rfl, hid hst.out.1, hown2, hb4⟩
       case measure => exact hst.out.2
     | false =>
      go_wp2_with fail
      refine Calls.mono (hhc.out _) ?_
      rintro e wh ⟨rfl, hbq⟩
      replace a5' := hid (a5'.out.keptAll hbq)
      replace hv3 := hid (rowT_kept hv3.out hbq)
      replace hb3 := hid (hb3.out.trans (hbq.mono hb3.out.size))
      clear hbq c0 c1 c2
      have c0 := a5'.out.cell 0
      have c1 := a5'.out.cell 1
      have c2 := a5'.out.cell 2
      simp only [List.getElem?_toArray, List.getElem?_cons_zero, List.getElem?_cons_succ] at c0 c1 c2
      go_wp2_with fail
      refine Calls.mono (hhc.out _) ?_
      rintro e wh2 ⟨rfl, hbq⟩
      replace a5' := hid (a5'.out.keptAll hbq)
      replace hv3 := hid (rowT_kept hv3.out hbq)
      replace hb3 := hid (hb3.out.trans (hbq.mono hb3.out.size))
      clear hbq c0 c1 c2
      have c0 := a5'.out.cell 0
      have c1 := a5'.out.cell 1
      have c2 := a5'.out.cell 2
      simp only [List.getElem?_toArray, List.getElem?_cons_zero, List.getElem?_cons_succ] at c0 c1 c2
      cases lo with
      | true =>
       obtain rfl : fr = true := by
        have h := hLo.out
        unfold lowP at h
        simp only [Bool.and_eq_true] at h
        exact h.1
       go_wp2_with fail
       refine Calls.mono (hlc.out _) ?_
       rintro e wl ⟨rfl, hbq⟩
       replace a5' := hid (a5'.out.keptAll hbq)
       replace hv3 := hid (rowT_kept hv3.out hbq)
       replace hb3 := hid (hb3.out.trans (hbq.mono hb3.out.size))
       clear hbq c0 c1 c2
       have c0 := a5'.out.cell 0
       have c1 := a5'.out.cell 1
       have c2 := a5'.out.cell 2
       simp only [List.getElem?_toArray, List.getElem?_cons_zero, List.getElem?_cons_succ] at c0 c1 c2
       have hch := hid (fun (u : World) => char_calls 65533 (by decide) u)
       obtain ⟨CL, hCL⟩ : ∃ CL, Hid (charL 65533 = CL) := ⟨_, rfl⟩
       rw [hCL.out] at hch
       have hCl : CL.length ≤ 4 := by rw [← hCL.out]; exact (charL_len _).2
       have hst : Hid (UnR s r2 (o ++ CL) ∧ r2.size < r.size) := hR.out.step hr0 (by unfold stepL; rw [hP.out]; dsimp only; rw [if_neg hz0, if_neg (by rw [hHi.out]; simp), if_pos (.inr hLo.out), hCL.out]) hr2b.out
       go_wp2_with fail
       refine Calls.mono (hch.out _) ?_
       rintro e wc ⟨bc, rfl, hbc, hbq⟩
       replace hv3 := hid (rowT_kept hv3.out hbq)
       replace hb3 := hid (hb3.out.trans (hbq.mono hb3.out.size))
       have hbc' := hid hbc
       have hz := hid hb3.out.size
       obtain ⟨i0, hi0, hz0', hz1, hz2⟩ := info_parts infoU8
       have g0 := hid hz0'
       have g1 := hid hz1
       have g2 := hid hz2
       have g3 := hid hi0
       clear hbc hbq c0 c1 c2 hz0' hz1 hz2 hi0 hch
       go_wp2_with (first
        | (at_builtin; refine wpList_append_own _ rfl _ _ 52 rfl w1.heap.size 5 i0 (.int .u8 0) 1 1 Tryz.underlying52 g3.out g0.out g1.out g2.out rfl (by decide) _ _ _ rfl hv3.out ⟨bc, 0, none⟩ CL.length CL.length (byC CL) rfl (by rw [byC_len, Nat.mul_one]) (fun j u hj => by
          have e : (⟨bc, 0, none⟩ : Addr).add j = ⟨bc, j, none⟩ := by by_cases h : j = 0 <;> simp [Addr.add, h]
          rw [e, hbc'.out.cell j, List.getElem?_toArray]
          exact hj) (fun u hu => by
          unfold byC at hu
          simp only [List.mem_map] at hu
          obtain ⟨x, -, rfl⟩ := hu
          rfl) (by unfold maxLen; omega) (by omega) hz.out ?_)
        | go_in)
       intro v' w' hown1 hgrow _
       have hown2 : Hid (w'.ownsRow w1.heap.size 5 1 v' (o ++ CL).length (byC (o ++ CL))) := by
        rw [byC_app, List.length_append]
        exact hown1
       have hb4 := hid (hb3.out.grown hgrow hb3.out.size (fun b e => (hv3.out.lt b e).1))
       clear hown1 hgrow
       go_wp2
       go_roundw
       case rel => exact ⟨_, _, rfl, hid hst.out.1, hown2, hb4⟩
       case measure => exact hst.out.2
      | false =>
       cases fr with
       | true =>
        go_wp2_with fail
        refine Calls.mono (hlc.out _) ?_
        rintro e wl ⟨rfl, hbq⟩
        replace a5' := hid (a5'.out.keptAll hbq)
        replace hv3 := hid (rowT_kept hv3.out hbq)
        replace hb3 := hid (hb3.out.trans (hbq.mono hb3.out.size))
        clear hbq c0 c1 c2
        have c0 := a5'.out.cell 0
        have c1 := a5'.out.cell 1
        have c2 := a5'.out.cell 2
        simp only [List.getElem?_toArray, List.getElem?_cons_zero, List.getElem?_cons_succ] at c0 c1 c2
        have hch := hid (fun (u : World) => char_calls mn (by omega) u)
        obtain ⟨CL, hCL⟩ : ∃ CL, Hid (charL mn = CL) := ⟨_, rfl⟩
        rw [hCL.out] at hch
        have hCl : CL.length ≤ 4 := by rw [← hCL.out]; exact (charL_len _).2
        have hst : Hid (UnR s r2 (o ++ CL) ∧ r2.size < r.size) := hR.out.step hr0 (by unfold stepL; rw [hP.out]; dsimp only; rw [if_neg hz0, if_neg (by rw [hHi.out]; simp), if_neg (by rw [hHi.out, hLo.out]; simp), if_pos rfl, hCL.out]) hr2b.out
        go_wp2_with fail
        refine Calls.mono (hch.out _) ?_
        rintro e wc ⟨bc, rfl, hbc, hbq⟩
        replace hv3 := hid (rowT_kept hv3.out hbq)
        replace hb3 := hid (hb3.out.trans (hbq.mono hb3.out.size))
        have hbc' := hid hbc
        have hz := hid hb3.out.size
        obtain ⟨i0, hi0, hz0', hz1, hz2⟩ := info_parts infoU8
        have g0 := hid hz0'
        have g1 := hid hz1
        have g2 := hid hz2
        have g3 := hid hi0
        clear hbc hbq c0 c1 c2 hz0' hz1 hz2 hi0 hch
        go_wp2_with (first
         | (at_builtin; refine wpList_append_own _ rfl _ _ 52 rfl w1.heap.size 5 i0 (.int .u8 0) 1 1 Tryz.underlying52 g3.out g0.out g1.out g2.out rfl (by decide) _ _ _ rfl hv3.out ⟨bc, 0, none⟩ CL.length CL.length (byC CL) rfl (by rw [byC_len, Nat.mul_one]) (fun j u hj => by
           have e : (⟨bc, 0, none⟩ : Addr).add j = ⟨bc, j, none⟩ := by by_cases h : j = 0 <;> simp [Addr.add, h]
           rw [e, hbc'.out.cell j, List.getElem?_toArray]
           exact hj) (fun u hu => by
           unfold byC at hu
           simp only [List.mem_map] at hu
           obtain ⟨x, -, rfl⟩ := hu
           rfl) (by unfold maxLen; omega) (by omega) hz.out ?_)
         | go_in)
        intro v' w' hown1 hgrow _
        have hown2 : Hid (w'.ownsRow w1.heap.size 5 1 v' (o ++ CL).length (byC (o ++ CL))) := by
         rw [byC_app, List.length_append]
         exact hown1
        have hb4 := hid (hb3.out.grown hgrow hb3.out.size (fun b e => (hv3.out.lt b e).1))
        clear hown1 hgrow
        go_wp2
        go_roundw
        case rel => exact ⟨_, _, rfl, hid hst.out.1, hown2, hb4⟩
        case measure => exact hst.out.2
       | false =>
        go_wp2_with fail
        refine Calls.mono (hlc.out _) ?_
        rintro e wl ⟨rfl, hbq⟩
        replace a5' := hid (a5'.out.keptAll hbq)
        replace hv3 := hid (rowT_kept hv3.out hbq)
        replace hb3 := hid (hb3.out.trans (hbq.mono hb3.out.size))
        clear hbq c0 c1 c2
        have c0 := a5'.out.cell 0
        have c1 := a5'.out.cell 1
        have c2 := a5'.out.cell 2
        simp only [List.getElem?_toArray, List.getElem?_cons_zero, List.getElem?_cons_succ] at c0 c1 c2
        have hmb : mn < 256 := by
         have h := nextP_one (lb (byts r)) (byts r).length (lb_lt (byts_lt r)) (show (nextL (byts r)).four = false by rw [hP.out])
         have h2 : (nextL (byts r)).means < 256 := h
         rw [hP.out] at h2
         exact h2
        have hmbi : (mn : Int) < 256 := by omega
        have hst : Hid (UnR s r2 (o ++ [mn]) ∧ r2.size < r.size) := hR.out.step hr0 (by unfold stepL; rw [hP.out]; dsimp only; rw [if_neg hz0, if_neg (by rw [hHi.out]; simp), if_neg (by rw [hHi.out, hLo.out]; simp), if_neg (by simp)]) hr2b.out
        have hz := hid hb3.out.size
        obtain ⟨i0, hi0, hz0', hz1, hz2⟩ := info_parts infoU8
        have g0 := hid hz0'
        have g1 := hid hz1
        have g2 := hid hz2
        have g3 := hid hi0
        clear hz0' hz1 hz2 hi0
        go_wp2_with (first
         | (at_builtin; refine wpList_append_own _ rfl _ _ 52 rfl w1.heap.size 5 i0 (.int .u8 0) 1 1 Tryz.underlying52 g3.out g0.out g1.out g2.out rfl (by decide) _ _ _ rfl (World.ownsRow.alloc hv3.out _) ⟨wl.heap.size, 0, none⟩ 1 1 [.int .u8 (mn : Int)] rfl rfl (fun j u hj => by match j, hj with | 0, hj => simp at hj; subst hj; simp [Addr.add]) (fun u hu => by simp at hu; subst hu; rfl) (by unfold maxLen; omega) (by omega) (by rw [World.size_alloc]; have := hz.out; omega) ?_)
         | go_in)
        intro v' w' hown1 hgrow _
        have hown2 : Hid (w'.ownsRow w1.heap.size 5 1 v' (o ++ [mn]).length (byC (o ++ [mn]))) := by
         rw [byC_app, List.length_append]
         exact hown1
        have hb4 := hid ((hb3.out.alloc hz.out (.cells #[.int .u8 (mn : Int)] 5)).grown hgrow (by rw [World.size_alloc]; have := hz.out; omega) (fun b e => (hv3.out.lt b e).1))
        clear hown1 hgrow c0 c1 c2
        go_wp2
        go_roundw
        case rel => exact ⟨_, _, rfl, hid hst.out.1, hown2, hb4⟩
        case measure => exact hst.out.2
   ·have hre : Hid (byts r = []) := List.eq_nil_of_length_eq_zero (by rw [byts_length]; omega)
    have hr0i : decide ((0 : Int) < (r.size : Int)) = false := decide_eq_false (by omega)
    have hr0j : decide (0 < r.size) = false := decide_eq_false (by omega)
    have hN : Hid (T = mkS o ∧ E = 0) := by
     have h := hUn.out
     rw [hR.out.1, hre.out, unescL_nil] at h
     simp only [Option.map_some, List.append_nil, Prod.mk.injEq] at h
     exact ⟨h.1.symm, h.2.symm⟩
    obtain ⟨rfl, rfl⟩ := hN.out
    have hfin := hid (hb1'.out.trans (hb.out.mono hb1'.out.size))
    have hcv : (convert 52 9 u4).run Tryz.prog wr = .ok (.string (mkS o)) wr := by
     refine conv_row (B := w1.heap.size) ?_
     rw [strCells_mkS hR.out.2.1, mkS_size]
     exact hv.out
    clear hN hv
    go_wp2
    exact bodyPost_ret (v := .tuple #[.string (mkS o), .int .i64 0]) (by simp [results, Tryz.results58, go_sem]; try decide) rfl ⟨rfl, hfin.out⟩
end Go.Proofs.YtkejlejhnnjdkaaGreatDoor

/-
 The value of a document: what stands from one place to another.
-/
namespace Go.Proofs.YtkejlejhnnjdkaaGreatDoor
/-- From a place within a text on, its end: the quote that closes it. -/
inductive QE (s : ByteArray) : Nat → Nat → Prop
 | stop (p : Nat) (h : p < s.size) (hq : byteAt s p = 34) : QE s p p
 | esc (p e : Nat) (h : p < s.size) (hq : byteAt s p = 92) (hn : QE s (p + 2) e) : QE s p e
 | step (p e : Nat) (h : p < s.size) (h1 : byteAt s p ≠ 34) (h2 : byteAt s p ≠ 92) (hn : QE s (p + 1) e) : QE s p e
theorem QE.le {s : ByteArray} {p e : Nat} (h : QE s p e) : p ≤ e ∧ e < s.size := by
 induction h with
 | stop p h hq => exact ⟨Nat.le_refl _, h⟩
 | esc p e h hq hn ih => exact ⟨by omega, ih.2⟩
 | step p e h h1 h2 hn ih => exact ⟨by omega, ih.2⟩
/-- A text in quotes: from its quote to behind the other one, and what it means. -/
def Txt (s : ByteArray) (i j : Nat) (T : ByteArray) : Prop := byteAt s i = 34 ∧ ∃ e, QE s (i + 1) e ∧ j = e + 1 ∧ (unS (s.extract (i + 1) e)).1 = T
/-- The value that begins at a place, and the place behind it. -/
inductive PV (s : ByteArray) : Nat → Vt → Nat → Prop
 | null (i : Nat) (h : byteAt s i = 110) (hl : i + 4 ≤ s.size) : PV s i (.mk 1 false ⟨#[]⟩ ⟨#[]⟩ [] []) (i + 4)
 | yes (i : Nat) (h : byteAt s i = 116) (hl : i + 4 ≤ s.size) : PV s i (.mk 2 true ⟨#[]⟩ ⟨#[]⟩ [] []) (i + 4)
 | no (i : Nat) (h : byteAt s i = 102) (hl : i + 5 ≤ s.size) : PV s i (.mk 2 false ⟨#[]⟩ ⟨#[]⟩ [] []) (i + 5)
 | text (i j : Nat) (T : ByteArray) (h : Txt s i j T) : PV s i (.mk 4 false ⟨#[]⟩ T [] []) j
 | num (i j : Nat) (h : i < s.size) (hc : byteAt s i ≠ 91 ∧ byteAt s i ≠ 123 ∧ byteAt s i ≠ 34 ∧ byteAt s i ≠ 110 ∧ byteAt s i ≠ 116 ∧ byteAt s i ≠ 102) (hj : (readS s i).2.1 = j) (hl : i < j) (hs : j ≤ s.size) : PV s i (.mk 3 false (s.extract i j) ⟨#[]⟩ [] []) j
 | arr (i : Nat) (vs : List Vt) (a b c : Nat → Nat) (h : byteAt s i = 91) (h0 : IsSkip s (i + 1) (a 0))
   (hq : ∀ q, q < vs.length → byteAt s (a q) ≠ 93 ∧ a q < s.size ∧ IsSkip s (if byteAt s (a q) = 44 then a q + 1 else a q) (b q) ∧ b q < s.size)
   (hv : ∀ (q : Nat) (u : Vt), vs[q]? = some u → PV s (b q) u (c q)) (hs : ∀ q, q < vs.length → IsSkip s (c q) (a (q + 1)))
   (he : byteAt s (a vs.length) = 93) (hn : a vs.length < s.size) : PV s i (.mk 5 false ⟨#[]⟩ ⟨#[]⟩ [] vs) (a vs.length + 1)
 | obj (i : Nat) (ks : List ByteArray) (vs : List Vt) (hkv : ks.length = vs.length) (a n m d b c : Nat → Nat) (h : byteAt s i = 123) (h0 : IsSkip s (i + 1) (a 0))
   (hq : ∀ q, q < vs.length → byteAt s (a q) ≠ 125 ∧ a q < s.size ∧ IsSkip s (if byteAt s (a q) = 44 then a q + 1 else a q) (n q) ∧ n q < s.size ∧ IsSkip s (m q) (d q) ∧ d q < s.size ∧ IsSkip s (d q + 1) (b q) ∧ b q < s.size)
   (hk : ∀ (q : Nat) (K : ByteArray), ks[q]? = some K → Txt s (n q) (m q) K)
   (hv : ∀ (q : Nat) (u : Vt), vs[q]? = some u → PV s (b q) u (c q)) (hs : ∀ q, q < vs.length → IsSkip s (c q) (a (q + 1)))
   (he : byteAt s (a vs.length) = 125) (hn : a vs.length < s.size) : PV s i (.mk 6 false ⟨#[]⟩ ⟨#[]⟩ ks vs) (a vs.length + 1)
theorem Txt.le {s : ByteArray} {i j : Nat} {T : ByteArray} (h : Txt s i j T) : i < s.size ∧ i + 2 ≤ j ∧ j ≤ s.size := by
 obtain ⟨h1, e, h2, rfl, -⟩ := h
 have := h2.le
 omega
/-- Where a value stands it ends within the text. -/
theorem PV.le {s : ByteArray} {i j : Nat} {t : Vt} (h : PV s i t j) : i < s.size ∧ i < j ∧ j ≤ s.size := by
 induction h with
 | null i h hl => omega
 | yes i h hl => omega
 | no i h hl => omega
 | text i j T h => have := h.le; omega
 | num i j h hc hj hl hs => omega
 | arr i vs a b c h h0 hq hv hs he hn ih =>
  have hi : i < s.size := byteAt_in (by rw [h]; decide)
  have hup : ∀ q, q ≤ vs.length → i < a q := by
   intro q
   induction q with
   | zero => intro _; have := h0.1; omega
   | succ q ihq =>
    intro hq1
    have h1 := ihq (by omega)
    obtain ⟨-, -, h2, -⟩ := hq q (by omega)
    have h3 := h2.1
    have h4 := ih q _ (List.getElem?_eq_getElem (show q < vs.length by omega))
    have h5 := (hs q (by omega)).1
    split at h3 <;> omega
  have := hup vs.length (Nat.le_refl _)
  omega
 | obj i ks vs hkv a n m d b c h h0 hq hk hv hs he hn ih =>
  have hi : i < s.size := byteAt_in (by rw [h]; decide)
  have hup : ∀ q, q ≤ vs.length → i < a q := by
   intro q
   induction q with
   | zero => intro _; have := h0.1; omega
   | succ q ihq =>
    intro hq1
    have h1 := ihq (by omega)
    obtain ⟨-, -, h2, -, h6, -, h7, -⟩ := hq q (by omega)
    have h3 := h2.1
    have h8 := (hk q _ (List.getElem?_eq_getElem (show q < ks.length by omega))).le
    have h9 := h6.1
    have h10 := h7.1
    have h4 := ih q _ (List.getElem?_eq_getElem (show q < vs.length by omega))
    have h5 := (hs q (by omega)).1
    split at h3 <;> omega
  have := hup vs.length (Nat.le_refl _)
  omega
theorem arr_len {s : ByteArray} {vs : List Vt} {a bb cc : Nat → Nat} (hq : ∀ q, q < vs.length → a q ≤ bb q) (hv : ∀ (q : Nat) (u : Vt), vs[q]? = some u → PV s (bb q) u (cc q)) (hs : ∀ q, q < vs.length → IsSkip s (cc q) (a (q + 1))) : ∀ q, q ≤ vs.length → q ≤ a q := by
 intro q
 induction q with
 | zero => intro _; exact Nat.zero_le _
 | succ q ih =>
  intro h
  have h1 := ih (by omega)
  have h2 := hq q (by omega)
  have h3 := (hv q _ (List.getElem?_eq_getElem (show q < vs.length by omega))).le
  have h4 := (hs q (by omega)).1
  omega
end Go.Proofs.YtkejlejhnnjdkaaGreatDoor
