/-
 quarryref23.Formed, Go.
-/
import Derived.Test.YtbabdhepnjacdaaDoorTiJ
import Derived.Test.YtbabdhepnjacdaaDoorTiH
namespace Go.Proofs.YtbabdhepnjacdaaDoor
open Go.RowKit Go.Shelf
set_option maxRecDepth 10000 in
set_option maxHeartbeats 4000000 in
theorem formedR23_calls (t : List Nod) (ao : Option Addr) (N cap : Nat) (hN : Hid (t.length = N)) (hm : Hid (Mid t)) (hsz : Hid (∀ n ∈ t, ∀ s ∈ n.steps, s.name.size ≤ 1048576)) (B : Bool) (hB : Hid (B = true ↔ FrmR t)) (w : World) (hk : Hid (NodesAt w ao t)) :
  Calls Tryd.prog 20 #[.slice ao N cap] w fun e w' => e = .returned (.bool B) ∧ Below w.heap.size w w' := by
 have hNi : N ≤ 1048576 := by have := hm.out.1; have := hN.out; omega
 have hNi' : (N : Int) ≤ 1048576 := by omega
 have hcn := hid (fun (u : World) (hu : Below w.heap.size w u) => count23_calls t ao N cap hN hm u (hid (hk.out.kept hu)))
 have htm := hid (fun (x : Int) (u : World) (hu : Below w.heap.size w u) => times23_calls t ao N cap hN hm x u (hid (hk.out.kept hu)))
 obtain ⟨C, hC⟩ : ∃ C, Hid ((enA t).length = C) := ⟨_, rfl⟩
 have hCb : C ≤ 1048576 := by have := hm.out.2.2.1; have := hC.out; omega
 have hCi : (C : Int) ≤ 1048576 := by omega
 rw [hC.out] at hcn
 go_enter Tryd.func20, Tryd.ntmps20
 by_cases h0 : N = 0
 ·have hfin : Hid (B = false) := hid (by
   cases hb : B with
   | false => rfl
   | true => exact absurd (List.length_eq_zero_iff.1 (hN.out.trans h0)) (hB.out.1 hb).1)
  have e0 : ((N : Int) == 0) = true := by rw [h0]; rfl
  subst h0
  go_wp2
  go_ret
  exact ⟨by rw [hfin.out] <;> rfl, Below.refl _ _⟩
 ·have e0 : ((N : Int) == 0) = false := beq_eq_false_iff_ne.2 (by omega)
  have h0' := hid h0
  clear h0
  go_wp2_with fail
  refine Calls.mono (hcn.out _ (Below.refl _ _)) ?_
  rintro e w2 ⟨rfl, b2⟩
  have B2 := hid b2
  clear b2
  by_cases h256 : 256 < C
  ·have f1 : decide ((256 : Int) < (C : Int)) = true := decide_eq_true (by omega)
   have hfin : Hid (B = false) := hid (by
    cases hb : B with
    | false => rfl
    | true => have := (hB.out.1 hb).2.1; have := hC.out; omega)
   go_wp2
   go_ret
   exact ⟨by rw [hfin.out] <;> rfl, B2.out⟩
  ·have f1 : decide ((256 : Int) < (C : Int)) = false := decide_eq_false (by omega)
   have f2 : decide (256 < C) = false := decide_eq_false h256
   have hC256 := hid (show (enA t).length ≤ 256 by have := hC.out; omega)
   go_wp2
   go_loopw [3] (fun ii wr => ∃ i : Nat, i ≤ N ∧ ii = .int .i64 (i : Int) ∧ Hid (∀ (q : Nat) (n : Nod), q < i → t[q]? = some n → nodOk N q n) ∧ Hid (∀ q : Nat, 0 < q → q < i → (toA t).count (q : Int) = 1) ∧ Hid (Below w.heap.size w wr)) (fun ii _ => N - (intOf ii).toNat)
   case atStart => exact ⟨0, Nat.zero_le _, rfl, hid (fun q n h => by omega), hid (fun q h h' => by omega), B2⟩
   case round =>
    obtain ⟨i, hi, rfl, hno, hto, hb⟩ := hrel
    by_cases hlt : i < N
    ·have hli : (i : Int) < (N : Int) := by omega
     have hlt' := hid (show i + 1 ≤ N by omega)
     obtain ⟨n, hn⟩ : ∃ n, Hid (t[i]? = some n) := ⟨_, List.getElem?_eq_getElem (by rw [hN.out]; exact hlt)⟩
     obtain ⟨V, hV⟩ : ∃ V : Bool, Hid (V = true ↔ nodOk N i n) := by
      by_cases h : nodOk N i n
      ·exact ⟨true, hid (by simp [h])⟩
      ·exact ⟨false, hid (by simp [h])⟩
     have hnd := hid (node23_calls t ao N cap hN hm hsz i n hn V hV wr (hid (hk.out.kept hb.out)))
     go_wp2_with fail
     refine Calls.mono hnd.out ?_
     rintro e w3 ⟨rfl, b3⟩
     have B3 := hid (hb.out.trans (b3.mono hb.out.size))
     clear b3 hnd
     cases V with
     | false =>
      have hfin : Hid (B = false) := hid (by
       cases hb : B with
       | false => rfl
       | true =>
        have h3 := (hB.out.1 hb).2.2.1 i n hn.out
        rw [hN.out] at h3
        have := hV.out.2 h3
        cases this)
      go_wp2
      go_ret
      exact ⟨by rw [hfin.out] <;> rfl, B3.out⟩
     | true =>
      have hno2 : Hid (∀ (q : Nat) (n : Nod), q < i + 1 → t[q]? = some n → nodOk N q n) := hid (fun q n' hq hn' => by
       by_cases e : q = i
       ·subst e
        have := hn.out.symm.trans hn'
        cases this
        exact hV.out.1 rfl
       ·exact hno.out q n' (by omega) hn')
      have ht2 := hid (htm.out (i : Int) _ B3.out)
      obtain ⟨c, hc⟩ : ∃ c, Hid ((toA t).count (i : Int) = c) := ⟨_, rfl⟩
      obtain ⟨d, hd⟩ : ∃ d, Hid ((enA t).count (i : Int) = d) := ⟨_, rfl⟩
      rw [hc.out, hd.out] at ht2
      clear hno hV
      go_wp2_with fail
      refine Calls.mono ht2.out ?_
      rintro e w4 ⟨rfl, b4⟩
      have B4 := hid (B3.out.trans (b4.mono B3.out.size))
      clear b4 ht2
      by_cases hi0 : 0 < i
      ·have g0 : decide ((0 : Int) < (i : Int)) = true := decide_eq_true (by omega)
       have g0' : decide (0 < i) = true := decide_eq_true hi0
       by_cases hc1 : c = 1
       ·subst hc1
        have g1 : (((1 : Nat) : Int) != 1) = false := by decide
        have hto2 : Hid (∀ q : Nat, 0 < q → q < i + 1 → (toA t).count (q : Int) = 1) := hid (fun q h h' => by
         by_cases e : q = i
         ·subst e; exact hc.out
         ·exact hto.out q h (by omega))
        clear hto
        go_wp2
        go_roundw
        case rel => exact ⟨i + 1, hlt'.out, by simp, hno2, hto2, B4⟩
        case measure => simp [intOf]; have := hlt'.out; omega
       ·have g1 : ((c : Int) != 1) = true := by simp; omega
        have hfin : Hid (B = false) := hid (by
         cases hb : B with
         | false => rfl
         | true => exact absurd (hc.out.symm.trans ((hB.out.1 hb).2.2.2.1 i hi0 (by rw [hN.out]; exact hlt))) hc1)
        go_wp2
        go_ret
        exact ⟨by rw [hfin.out] <;> rfl, B4.out⟩
      ·obtain rfl : i = 0 := by omega
       have hto2 : Hid (∀ q : Nat, 0 < q → q < 0 + 1 → (toA t).count (q : Int) = 1) := hid (fun q h h' => by omega)
       clear hto
       go_wp2
       go_roundw
       case rel => exact ⟨0 + 1, hlt'.out, by simp, hno2, hto2, B4⟩
       case measure => simp [intOf]; have := hlt'.out; omega
    ·obtain rfl : i = N := by omega
     have hB2 : Hid (B = true ↔ ∀ k : Nat, k < C → (enA t).count (k : Int) = 1) := hid (by
      rw [hB.out]
      constructor
      ·intro h k hk
       exact h.2.2.2.2 k (by rw [hC.out]; exact hk)
      ·intro h
       refine ⟨fun e => h0'.out (by rw [← hN.out, e]; rfl), hC256.out, fun q n hq => ?_, fun q h1 h2 => hto.out q h1 (by rw [← hN.out]; exact h2), fun k hk => h k (by rw [← hC.out]; exact hk)⟩
       have := hno.out q n (by rw [← hN.out]; exact (List.getElem?_eq_some_iff.1 hq).1) hq
       rwa [hN.out])
     clear hno hto hB
     go_wp2
     go_loopw [6] (fun ii wr => ∃ k : Nat, k ≤ C ∧ ii = .int .i64 (k : Int) ∧ Hid (∀ q : Nat, q < k → (enA t).count (q : Int) = 1) ∧ Hid (Below w.heap.size w wr)) (fun ii _ => C - (intOf ii).toNat)
     case atStart => exact ⟨0, Nat.zero_le _, rfl, hid (fun q h => by omega), hb⟩
     case round =>
      clear hb
      obtain ⟨k, hkC, rfl, hen, hb⟩ := hrel
      go_wp2_with fail
      refine Calls.mono (hcn.out _ hb.out) ?_
      rintro e w3 ⟨rfl, b3⟩
      have B3 := hid (hb.out.trans (b3.mono hb.out.size))
      clear b3
      by_cases hlt : k < C
      ·have hli : decide ((k : Int) < (C : Int)) = true := decide_eq_true (by omega)
       have hli2 : decide (k < C) = true := decide_eq_true hlt
       have hlt' := hid (show k + 1 ≤ C by omega)
       have ht2 := hid (htm.out (k : Int) _ B3.out)
       obtain ⟨c, hc⟩ : ∃ c, Hid ((toA t).count (k : Int) = c) := ⟨_, rfl⟩
       obtain ⟨d, hd⟩ : ∃ d, Hid ((enA t).count (k : Int) = d) := ⟨_, rfl⟩
       rw [hc.out, hd.out] at ht2
       go_wp2_with fail
       refine Calls.mono ht2.out ?_
       rintro e w4 ⟨rfl, b4⟩
       have B4 := hid (B3.out.trans (b4.mono B3.out.size))
       clear b4 ht2
       by_cases hd1 : d = 1
       ·subst hd1
        have g1 : (((1 : Nat) : Int) != 1) = false := by decide
        have hen2 : Hid (∀ q : Nat, q < k + 1 → (enA t).count (q : Int) = 1) := hid (fun q h => by
         by_cases e : q = k
         ·subst e; exact hd.out
         ·exact hen.out q (by omega))
        clear hen
        go_wp2
        go_roundw
        case rel => exact ⟨k + 1, hlt'.out, by simp, hen2, B4⟩
        case measure => simp [intOf]; have := hlt'.out; omega
       ·have g1 : ((d : Int) != 1) = true := by simp; omega
        have hfin : Hid (B = false) := hid (by
         cases hb : B with
         | false => rfl
         | true => exact absurd (hd.out.symm.trans (hB2.out.1 hb k hlt)) hd1)
        go_wp2
        go_ret
        exact ⟨by rw [hfin.out] <;> rfl, B4.out⟩
      ·have hli : decide ((k : Int) < (C : Int)) = false := decide_eq_false (by omega)
       have hli2 : decide (k < C) = false := decide_eq_false hlt
       have hfin : Hid (B = true) := hid (hB2.out.2 (fun q hq => hen.out q (by omega)))
       go_wp2
       go_ret
       exact ⟨by rw [hfin.out] <;> rfl, B3.out⟩
theorem filter_snoc {G : List Int} {x q : Int} : (G ++ [x]).filter (fun y => y == q) = G.filter (fun y => y == q) ++ if x = q then [q] else [] := by
 rw [List.filter_append]
 congr 1
 by_cases h : x = q
 ·subst h; simp
 ·simp [h]
set_option maxRecDepth 10000 in
set_option maxHeartbeats 4000000 in
theorem goR23_calls (t : List Nod) (ao : Option Addr) (N cap : Nat) (hN : Hid (t.length = N)) (hm : Hid (Mid t)) (hsz : Hid (∀ n ∈ t, ∀ s ∈ n.steps, s.name.size ≤ 1048576)) (a : Int) (nm : ByteArray) (pl : Int) (ob : Bool) (w : World) (hk : Hid (NodesAt w ao t)) :
  Calls Tryd.prog 23 #[.slice ao N cap, .int .i64 a, .string nm, .int .i64 pl, .bool ob] w fun e w' => (∃ ro rc L E, e = .returned (.tuple #[.slice ro (L : List Int).length rc, .int .i64 E]) ∧ IntsZ w' ro L ∧ IsGo t a nm pl ob L E) ∧ Below w.heap.size w w' := by
 have hNi : N ≤ 1048576 := by have := hm.out.1; have := hN.out; omega
 have hNi' : (N : Int) ≤ 1048576 := by omega
 obtain ⟨F, hF⟩ : ∃ F : Bool, Hid (F = true ↔ FrmR t) := by
  by_cases h : FrmR t
  ·exact ⟨true, hid (by simp [h])⟩
  ·exact ⟨false, hid (by simp [h])⟩
 have hf := hid (formedR23_calls t ao N cap hN hm hsz F hF w hk)
 go_enter Tryd.func23, Tryd.ntmps23
 go_wp2_with fail
 refine Calls.mono hf.out ?_
 rintro e w2 ⟨rfl, b2⟩
 have B2 := hid b2
 clear b2 hf
 cases F with
 | false =>
  have hno := hid (show ¬ FrmR t from fun h => by have := hF.out.2 h; cases this)
  go_wp2
  refine bodyPost_ret (v := .tuple #[.slice none 0 0, .int .i64 1]) (by simp [results, Tryd.results23, go_sem]) rfl ?_
  exact ⟨⟨none, 0, [], 1, rfl, fun i x h => by simp at h, .inl ⟨hno.out, rfl, rfl⟩⟩, B2.out⟩
 | true =>
  have hyes := hid (hF.out.1 rfl)
  by_cases h0 : a < 0
  ·have f0 : decide (a < 0) = true := decide_eq_true h0
   have h0' := hid h0
   clear h0
   go_wp2
   refine bodyPost_ret (v := .tuple #[.slice none 0 0, .int .i64 2]) (by simp [results, Tryd.results23, go_sem]) rfl ?_
   exact ⟨⟨none, 0, [], 2, rfl, fun i x h => by simp at h, .inr (.inl ⟨hyes.out, .inl h0'.out, rfl, rfl⟩)⟩, B2.out⟩
  ·have f0 : decide (a < 0) = false := decide_eq_false h0
   by_cases h1 : (N : Int) ≤ a
   ·have f1 : decide ((N : Int) ≤ a) = true := decide_eq_true h1
    have h1' := hid (show (t.length : Int) ≤ a by rw [hN.out]; exact h1)
    clear h0 h1
    go_wp2
    refine bodyPost_ret (v := .tuple #[.slice none 0 0, .int .i64 2]) (by simp [results, Tryd.results23, go_sem]) rfl ?_
    exact ⟨⟨none, 0, [], 2, rfl, fun i x h => by simp at h, .inr (.inl ⟨hyes.out, .inr h1'.out, rfl, rfl⟩)⟩, B2.out⟩
   ·have f1 : decide ((N : Int) ≤ a) = false := decide_eq_false h1
    obtain ⟨k, rfl⟩ : ∃ k : Nat, a = (k : Int) := ⟨a.toNat, by omega⟩
    have hkN : k < N := by omega
    have f2 : decide (N ≤ k) = false := decide_eq_false (by omega)
    have hkN' : (k : Int) < (N : Int) := by omega
    obtain ⟨n, hn⟩ : ∃ n, Hid (t[k]? = some n) := ⟨_, List.getElem?_eq_getElem (by rw [hN.out]; exact hkN)⟩
    obtain ⟨g, o, sa, sc, ta, tc, ea, ec, rfl, hS, -, hTo, -, hcl⟩ := node_at (hk.out.kept B2.out) hn.out
    have hfr := frm_node hyes.out hn.out
    have hsl := hm.out.2.2.2 n (List.mem_of_getElem? hn.out)
    obtain ⟨M, hM⟩ : ∃ M, Hid (n.tos.length = M) := ⟨_, rfl⟩
    have hMs : Hid (n.steps.length = M) := hid (hfr.1.trans hM.out)
    have hMb : M ≤ 1048576 := by have := hMs.out; omega
    have hMi : (M : Int) ≤ 1048576 := by omega
    rw [hM.out, hMs.out] at hcl
    have hS' := hid hS
    have hTo' := hid hTo
    have hcl' := hid hcl
    have hNd := hid hfr.2.1
    have hGl : Hid (∀ q : Nat, (byN (gtL nm pl ob n.steps n.tos) q).length ≤ 1048576) := hid (fun q => by
     have h1 := ris_nodup (byN_ris (hfr.2.1.sublist (gtL_sub nm pl ob n.steps n.tos)) q)
     have h2 := nodup_le (B := n.tos) h1 (fun x hx => (gtL_sub nm pl ob n.steps n.tos).subset (byN_mem.1 hx).1)
     have := hM.out
     omega)
    clear h0 h1 hS hTo hcl hfr hsl
    go_wp2
    go_loopw [12, 13] (fun vv qq wr => ∃ (q : Nat) (v : Value), q ≤ N ∧ qq = .int .i64 (q : Int) ∧ v = vv ∧ Hid (InG w2.heap.size wr v (byN (gtL nm pl ob n.steps n.tos) q)) ∧ Hid (Below w2.heap.size w2 wr)) (fun _ qq _ => N - (intOf qq).toNat)
    case atStart => exact ⟨0, _, Nat.zero_le _, rfl, rfl, hid (by simpa [byN] using InG.nil _ _), hid (Below.refl _ _)⟩
    case round =>
     obtain ⟨q, v, hq, rfl, rfl, hI, hb⟩ := hrel
     by_cases hqN : q < N
     ·have hqi : (q : Int) < (N : Int) := by omega
      have hq' := hid (show q + 1 ≤ N by omega)
      have hall := hid (show ∀ j, (byN (gtL nm pl ob n.steps n.tos) q ++ (gtL nm pl ob (n.steps.take j) (n.tos.take j)).filter (fun y => y == (q : Int))).length ≤ 2097152 from fun j => by
       have h1 := hGl.out q
       have h2 := (List.filter_sublist (p := fun y => y == (q : Int)) (l := gtL nm pl ob (n.steps.take j) (n.tos.take j))).length_le
       have h3 := (gtL_sub nm pl ob (n.steps.take j) (n.tos.take j)).length_le
       rw [List.length_take] at h3
       have := hM.out
       rw [List.length_append]
       omega)
      go_wp2
      go_loopw [12, 14] (fun vv jj wr => ∃ (j : Nat) (v : Value), j ≤ M ∧ jj = .int .i64 (j : Int) ∧ v = vv ∧ Hid (InG w2.heap.size wr v (byN (gtL nm pl ob n.steps n.tos) q ++ (gtL nm pl ob (n.steps.take j) (n.tos.take j)).filter (fun y => y == (q : Int)))) ∧ Hid (Below w2.heap.size w2 wr)) (fun _ jj _ => M - (intOf jj).toNat)
      case atStart => exact ⟨0, v, Nat.zero_le _, rfl, rfl, hid (by simpa [gtL] using hI.out), hb⟩
      case round =>
       clear hI hb
       obtain ⟨j, v, hj, rfl, rfl, hI, hb⟩ := hrel
       have d1 := (hcl'.out _ hb.out).2.1
       by_cases hlt : j < M
       ·have hli : (j : Int) < (M : Int) := by omega
        obtain ⟨s, hs⟩ : ∃ s, Hid (n.steps[j]? = some s) := ⟨_, List.getElem?_eq_getElem (by rw [hMs.out]; exact hlt)⟩
        obtain ⟨x, hx⟩ : ∃ x, Hid (n.tos[j]? = some x) := ⟨_, List.getElem?_eq_getElem (by rw [hM.out]; exact hlt)⟩
        have hlt' := hid (show j + 1 ≤ M by omega)
        have htk := hid (gtL_take (nm := nm) (pl := pl) (ob := ob) hs.out hx.out)
        obtain ⟨g3, o3, rfl, hcx⟩ := ints_at hTo'.out hx.out
        have cx := hcx _ hb.out
        have ad3 : (⟨g3, o3, none⟩ : Addr).add j = ⟨g3, o3 + j, none⟩ := by by_cases h : j = 0 <;> simp [Addr.add, h]
        by_cases hxq : x = (q : Int)
        ·subst hxq
         have e0 : ((q : Int) == (q : Int)) = true := by simp
         have d0 := (hcl'.out _ hb.out).1
         obtain ⟨g2, o2, rfl, hg2, hrg2⟩ := steps_at (hS'.out.kept hb.out) hs.out
         have htt := hid (fun u => takesR22_calls s nm pl ob u)
         obtain ⟨T, hT'⟩ : ∃ T, tkS s nm pl ob = T := ⟨_, rfl⟩
         rw [hT'] at htt htk
         clear hs hx hT' hcx
         obtain ⟨sk, sn, sp⟩ := s
         dsimp only at *
         have hrg' := hid hrg2
         have z1 : (Tryd.prog.info? 53).map (·.size) = some ([.int .i64 sk, .string sn, .int .i64 sp] : List Value).length := sizeStp
         clear hrg2 hg2
         go_wp2_with (first | refine wpList_load_want 53 _ g2 (o2 + j * 3) [.int .i64 sk, .string sn, .int .i64 sp] _ hrg'.out Tryd.underlying53 z1 rfl rfl rfl (by rfl) ?_ | fail)
         refine Calls.mono (htt.out _) ?_
         rintro e w3 ⟨rfl, b3⟩
         have B3 := hid (hb.out.trans (b3.mono hb.out.size))
         have I3 := hid (hI.out.keptB b3)
         clear b3 htt cx d0 d1
         cases T with
         | false =>
          go_wp2
          go_roundw
          case rel => exact ⟨j + 1, v, hlt'.out, by simp, rfl, hid (by rw [htk.out]; simpa using I3.out), B3⟩
          case measure => simp [intOf]; have := hlt'.out; omega
         | true =>
          obtain ⟨W4, hW4⟩ : ∃ W, w3.alloc (.cells #[.int .i64 (q : Int)] 3) = W := ⟨_, rfl⟩
          have b4 : Below w3.heap.size w3 W4 := by rw [← hW4]; exact (Below.refl _ w3).alloc (Nat.le_refl _) _
          have A4 := hid (show At W4 w3.heap.size #[.int .i64 (q : Int)] 3 by rw [← hW4]; exact At.new _ _ _)
          have B4 := hid (B3.out.trans (b4.mono B3.out.size))
          have I4 := hid (I3.out.keptB b4)
          clear b4 I3
          go_wp2_with (first | (at_builtin; refine wpList_inG rfl _ _ rfl w2.heap.size v _ (q : Int) ⟨w3.heap.size, 0, none⟩ 1 rfl rfl I4.out (A4.out.cell 0) (by have := hall.out j; omega) B4.out.size ?_) | fail)
          intro v' w5 I5 hg5
          have B5 := hid (B4.out.grown hg5 B4.out.size (fun c hc => (I4.out.lt c hc).1))
          have I5' := hid I5
          clear I5 hg5 I4 A4 hW4
          go_wp2
          go_roundw
          case rel => exact ⟨j + 1, v', hlt'.out, by simp, rfl, hid (by rw [htk.out, if_pos trivial, filter_snoc, if_pos rfl]; exact I5'.out), B5⟩
          case measure => simp [intOf]; have := hlt'.out; omega
        ·have e0 : (x == (q : Int)) = false := beq_eq_false_iff_ne.2 hxq
         have hsame : Hid ((gtL nm pl ob (n.steps.take (j + 1)) (n.tos.take (j + 1))).filter (fun y => y == (q : Int)) = (gtL nm pl ob (n.steps.take j) (n.tos.take j)).filter (fun y => y == (q : Int))) := hid (by
          rw [htk.out]
          split
          ·rw [filter_snoc, if_neg hxq, List.append_nil]
          ·rw [List.append_nil])
         clear hxq hs hx htk hcx
         go_wp2
         go_roundw
         case rel => exact ⟨j + 1, v, hlt'.out, by simp, rfl, hid (by rw [hsame.out]; exact hI.out), hb⟩
         case measure => simp [intOf]; have := hlt'.out; omega
       ·obtain rfl : j = M := by omega
        have hts : Hid (n.steps.take j = n.steps) := hid (List.take_of_length_le (by rw [hMs.out]; exact Nat.le_refl _))
        have htt : Hid (n.tos.take j = n.tos) := hid (List.take_of_length_le (by rw [hM.out]; exact Nat.le_refl _))
        rw [hts.out, htt.out, ← byN_succ] at hI
        have hI' := hid hI.out
        clear hI
        go_wp2
        go_roundw
        case rel => exact ⟨q + 1, v, hq'.out, by simp, rfl, hI', hb⟩
        case measure => simp [intOf]; have := hq'.out; omega
     ·obtain rfl : q = N := by omega
      obtain ⟨ro, rc, rfl⟩ := hI.out.shape
      have h64 := hid (show ∀ x ∈ byN (gtL nm pl ob n.steps n.tos) q, i64B x from fun x hx => hTo'.out.b64 x ((gtL_sub nm pl ob n.steps n.tos).subset (byN_mem.1 hx).1))
      have hrow := hid (hI.out.row h64.out).2
      have Bf := hid (B2.out.trans (hb.out.mono B2.out.size))
      clear hI h64
      go_wp2
      refine bodyPost_ret (v := .tuple #[.slice ro (byN (gtL nm pl ob n.steps n.tos) q).length rc, .int .i64 0]) (by simp [results, Tryd.results23, go_sem]) rfl ?_
      exact ⟨⟨ro, rc, _, 0, rfl, hrow.out, .inr (.inr ⟨hyes.out, k, n, rfl, hn.out, by rw [hN.out], rfl⟩)⟩, Bf.out⟩
end Go.Proofs.YtbabdhepnjacdaaDoor
