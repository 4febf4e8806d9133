/-
 Tries and what Go is asked, as they come in; the law TrieGoes, walked.
-/
import Derived.Test.YtbabdhepnjacdaaDoorTiM
namespace Go.Proofs.YtbabdhepnjacdaaDoor
open Go.ChangeShapes Go.WideShapes Go.ChangeAt Go.RowKit Go.Shelf
set_option maxRecDepth 100000
/-- What Go is asked. -/
structure AskZ where
 node : Int
 name : ByteArray
 place : Int
 obj : Bool
def AsksAt (w : World) (ao : Option Addr) (L : List AskZ) : Prop := ∀ (i : Nat) (x : AskZ), L[i]? = some x → ∃ b off, ao = some ⟨b, off, none⟩ ∧ b < w.heap.size ∧ w.rangeAt b (off + i * 4) [.int .i64 x.node, .string x.name, .int .i64 x.place, .bool x.obj]
theorem AsksAt.kept {w w' : World} {ao : Option Addr} {L : List AskZ} (h : AsksAt w ao L) (hb : Below w.heap.size w w') : AsksAt w' ao L := fun i x hi => by
 obtain ⟨b, off, h1, h2, h3⟩ := h i x hi
 exact ⟨b, off, h1, Nat.lt_of_lt_of_le h2 hb.size, range_kept h3 hb⟩
theorem cellsAk : Tryd.prog.cellsOf 41 = 4 := by kernel_rfl
section
variable {H : Type} {enc : TypeId × Value → H} {w : World} {base : Nat} {spare : Nat → Bool} {held : Bool}
theorem open_nodesU {r : Reach} {b0 : Nat} {v : Value} {d : DataW H} {ps : List MemPlace} (hval : Value.okWide Tryd.prog w r b0 23 v) (hd : DataW.Trod enc Tryd.prog w base spare held 23 v d ps) (hwt : Rows.uptoBulk d ≤ 1048576) :
  ∃ (ao : Option Addr) (cap : Nat) (t : List Nod), v = .slice ao t.length cap ∧ (t.map blkNd).sum ≤ 1048576 ∧ (∀ n ∈ t, ∀ s ∈ n.steps, s.name.size ≤ 1048576) ∧ NodesAt w ao t := by
 obtain ⟨ao, len, cap, rfl⟩ := okWide_slice Tryd.underlying23 hval
 obtain ⟨fuel, hf⟩ := hd
 have hf' : DataW.trod enc Tryd.prog w base spare held fuel 23 [.slice ao len cap] = some (d, ps) := by simpa [Value.cells] using hf
 obtain ⟨ao', cap', t, h1, h2, h3, h4⟩ := open_nodes hf' hwt
 exact ⟨ao', cap', t, h1, Nat.le_trans h2 hwt, h3, h4⟩
theorem open_asksU {r : Reach} {b0 : Nat} {v : Value} {d : DataW H} {ps : List MemPlace} (hval : Value.okWide Tryd.prog w r b0 35 v) (hd : DataW.Trod enc Tryd.prog w base spare held 35 v d ps) (hwt : Rows.uptoBulk d ≤ 1048576) :
  ∃ (ao : Option Addr) (cap : Nat) (L : List AskZ), v = .slice ao L.length cap ∧ L.length ≤ 1048576 ∧ AsksAt w ao L := by
 obtain ⟨ao, len, cap, rfl⟩ := okWide_slice Tryd.underlying35 hval
 obtain ⟨fuel, hf⟩ := hd
 have hf' : DataW.trod enc Tryd.prog w base spare held fuel 35 [.slice ao len cap] = some (d, ps) := by simpa [Value.cells] using hf
 obtain ⟨ao, cap, L, e, hs, hall⟩ := open_listG (α := AskZ) (te := 41) (sz := 4) Tryd.underlying35 cellsAk (by decide) (fun _ => 1) (fun x cs => cs = [.int .i64 x.node, .string x.name, .int .i64 x.place, .bool x.obj]) (fun {m cs y} h _ hl => by
  obtain ⟨c0, c1, c2, c3, rfl⟩ : ∃ c0 c1 c2 c3, cs = [c0, c1, c2, c3] := by
   match cs, hl with
   | [a, b, c, d], _ => exact ⟨a, b, c, d, rfl⟩
  obtain ⟨y0, y1, y2, y3, m', hl, hx, h0, h1, h2, h3⟩ := trod_four Tryd.underlying41 h
  have e0 : ((([c0, c1, c2, c3] : List Value).drop 0).take (Tryd.prog.cellsOf 3)) = [c0] := by rw [cellsSi]; rfl
  have e1 : ((([c0, c1, c2, c3] : List Value).drop 1).take (Tryd.prog.cellsOf 9)) = [c1] := by rw [cellsSs]; rfl
  have e2 : ((([c0, c1, c2, c3] : List Value).drop 2).take (Tryd.prog.cellsOf 3)) = [c2] := by rw [cellsSi]; rfl
  have e3 : ((([c0, c1, c2, c3] : List Value).drop 3).take (Tryd.prog.cellsOf 4)) = [c3] := by rw [cellsSb]; rfl
  have h0' : DataW.trod enc Tryd.prog w base spare held m' 3 [c0] = some y0 := by rw [← e0]; exact h0
  have h1' : DataW.trod enc Tryd.prog w base spare held m' 9 [c1] = some y1 := by rw [← e1]; exact h1
  have h2' : DataW.trod enc Tryd.prog w base spare held m' 3 [c2] = some y2 := by rw [← e2]; exact h2
  have h3' : DataW.trod enc Tryd.prog w base spare held m' 4 [c3] = some y3 := by rw [← e3]; exact h3
  obtain ⟨k, hk, -⟩ := DataW.trod_int Tryd.underlying3 h0'
  obtain ⟨nm, hn, -⟩ := DataW.trod_string Tryd.underlying9 h1'
  obtain ⟨pl, hp, -⟩ := DataW.trod_int Tryd.underlying3 h2'
  obtain ⟨ob, hb, -⟩ := DataW.trod_bool Tryd.underlying4 h3'
  simp at hk hn hp hb
  refine ⟨⟨k, nm, pl, ob⟩, by rw [hk, hn, hp, hb], ?_⟩
  rw [hx]
  simp only [Rows.uptoBulk]
  omega) hf' hwt
 refine ⟨ao, cap, L, e, Nat.le_trans (Nat.le_trans (sum_len (fun _ : AskZ => 1) (fun _ => Nat.le_refl _) L) hs) hwt, fun i x hi => ?_⟩
 obtain ⟨b, off, cs, h1, h2, -, h3, rfl⟩ := hall i x hi
 exact ⟨b, off, h1, h2, h3⟩
end
theorem sizeAk : (Tryd.prog.info? 41).map (·.size) = some 4 := by kernel_rfl
set_option maxRecDepth 10000 in
set_option maxHeartbeats 4000000 in
theorem trieGoes_walk (ao : Option Addr) (cap : Nat) (t : List Nod) (hs : (t.map blkNd).sum ≤ 1048576) (hz : ∀ n ∈ t, ∀ s ∈ n.steps, s.name.size ≤ 1048576) (bo : Option Addr) (cap' : Nat) (L : List AskZ) (hl : L.length ≤ 1048576) (w : World) (hT : TabU w) (hk : NodesAt w ao t) (hq : AsksAt w bo L) :
  Calls Tryd.prog 5 #[.slice ao t.length cap, .slice bo L.length cap'] w fun e w' => e = .returned (.bool true) ∧ Below w.heap.size w w' := by
 obtain ⟨N, hN⟩ : ∃ N, Hid (t.length = N) := ⟨_, rfl⟩
 obtain ⟨M, hM⟩ : ∃ M, Hid (L.length = M) := ⟨_, rfl⟩
 rw [hN.out, hM.out]
 rw [hM.out] at hl
 have hMi : (M : Int) ≤ 1048576 := by omega
 have hmid := hid (mid_sum hs)
 have hs' := hid hs
 have hz' := hid hz
 have hT' := hid hT
 have hk' := hid hk
 have hq' := hid hq
 have hg := hid (fun (a : Int) (nm : ByteArray) (pl : Int) (ob : Bool) (u : World) (hu : Below w.heap.size w u) => go23_calls t ao N cap hN hmid a nm pl ob u (hid (hk'.out.kept hu)) (hid (hT'.out.below hu)))
 have hr := hid (fun (a : Int) (nm : ByteArray) (pl : Int) (ob : Bool) (u : World) (hu : Below w.heap.size w u) => goR23_calls t ao N cap hN hmid hz' a nm pl ob u (hid (hk'.out.kept hu)))
 have hv := hid (fun (u : World) (hu : Below w.heap.size w u) => vast_calls t ao N cap hN hs' u (hid (hk'.out.kept hu)))
 have hsm := hid (fun u => smallT_calls u)
 clear hs hz hT hk hq
 go_enter Tryd.func5, Tryd.ntmps5
 go_wp2_with fail
 refine Calls.mono (hsm.out _) ?_
 rintro e w1 ⟨⟨b, rfl, hs1⟩, b1⟩
 have B1 := hid b1
 have hg1 := hid (go23_calls smT (some ⟨b, 0, none⟩) 3 3 (hid rfl) (hid smT_mid) 0 ⟨#[97]⟩ 0 true w1 (hid hs1) (hid (hT'.out.below b1)))
 clear b1 hs1 hsm
 go_wp2_with fail
 refine Calls.mono hg1.out ?_
 rintro e w2 ⟨⟨ro, rc, L1, E1, rfl, hi1, hgo⟩, b2⟩
 obtain ⟨rfl, rfl⟩ := smT_go hgo
 have B2 := hid (B1.out.trans (b2.mono B1.out.size))
 obtain ⟨W3, hW3⟩ : ∃ W, w2.alloc (.cells #[.int .i64 1] 3) = W := ⟨_, rfl⟩
 have b3 : Below w2.heap.size w2 W3 := by rw [← hW3]; exact (Below.refl _ w2).alloc (Nat.le_refl _) _
 have A3 : At W3 w2.heap.size #[.int .i64 1] 3 := by rw [← hW3]; exact At.new _ _ _
 have B3 := hid (B2.out.trans (b3.mono B2.out.size))
 have hsa := hid (sameZ_calls [1] 1 (hid rfl) (by omega) ro (some ⟨w2.heap.size, 0, none⟩) rc 1 W3 (hi1.kept b3) (one_ints A3 (by unfold i64B; omega)))
 clear b2 hg1 hi1 hgo b3 A3
 rw [show ([1] : List Int).length = 1 from rfl]
 go_wp2_with fail
 refine Calls.mono hsa.out ?_
 rintro e w4 ⟨rfl, b4⟩
 have B4 := hid (B3.out.trans (b4.mono B3.out.size))
 clear b4 hsa hW3
 go_wp2_with fail
 refine Calls.mono (hv.out _ B4.out) ?_
 rintro e w5 ⟨⟨V, rfl⟩, b5⟩
 have B5 := hid (B4.out.trans (b5.mono B4.out.size))
 clear b5 hv
 cases V with
 | true =>
  go_wp2
  go_ret
  exact ⟨rfl, B5.out⟩
 | false =>
  go_wp2
  go_loopw [7] (fun ii wr => ∃ i : Nat, i ≤ M ∧ ii = .int .i64 (i : Int) ∧ Hid (Below w.heap.size w wr)) (fun ii _ => M - (intOf ii).toNat)
  case atStart => exact ⟨0, Nat.zero_le _, rfl, B5⟩
  case round =>
   obtain ⟨i, hi, rfl, hb⟩ := hrel
   by_cases hlt : i < M
   ·have hli : (i : Int) < (M : Int) := by omega
    have hlt' := hid (show i + 1 ≤ M by omega)
    by_cases h3 : i < 300
    ·have f1 : decide ((i : Int) < 300) = true := decide_eq_true (by omega)
     have f2 : decide (i < 300) = true := decide_eq_true h3
     obtain ⟨x, hx⟩ : ∃ x, Hid (L[i]? = some x) := ⟨_, List.getElem?_eq_getElem (by rw [hM.out]; exact hlt)⟩
     obtain ⟨g, o, rfl, hgl, hrg⟩ := (hq'.out.kept hb.out) i x hx.out
     obtain ⟨xn, xm, xp, xo⟩ := x
     dsimp only at hrg
     have hrg' := hid hrg
     have z1 : (Tryd.prog.info? 41).map (·.size) = some ([.int .i64 xn, .string xm, .int .i64 xp, .bool xo] : List Value).length := sizeAk
     obtain ⟨W1, hW1⟩ : ∃ W, wr.alloc (.cells #[.int .i64 xn, .string xm, .int .i64 xp, .bool xo] 41) = W := ⟨_, rfl⟩
     have c1 : Below wr.heap.size wr W1 := by rw [← hW1]; exact (Below.refl _ wr).alloc (Nat.le_refl _) _
     have A1 := hid (show At W1 wr.heap.size #[.int .i64 xn, .string xm, .int .i64 xp, .bool xo] 41 by rw [← hW1]; exact At.new _ _ _)
     have C1 := hid (hb.out.trans (c1.mono hb.out.size))
     have d0 := A1.out.cell 0
     have d1 := A1.out.cell 1
     have d2 := A1.out.cell 2
     have d3 := A1.out.cell 3
     simp only [List.getElem?_toArray, List.getElem?_cons_zero, List.getElem?_cons_succ] at d0 d1 d2 d3
     clear hx hgl hrg c1
     go_wp2_with (first | refine wpList_load_want 41 _ g (o + i * 4) [.int .i64 xn, .string xm, .int .i64 xp, .bool xo] _ hrg'.out Tryd.underlying41 z1 rfl rfl rfl (by rfl) ?_ | fail)
     refine Calls.mono (hg.out xn xm xp xo _ C1.out) ?_
     rintro e w2 ⟨⟨ro, rc, LA, EA, rfl, hiA, hgoA⟩, c2⟩
     have C2 := hid (C1.out.trans (c2.mono C1.out.size))
     have A2 := A1.out.keptAll c2
     have hiA' := hid hiA
     have hgoA' := hid hgoA
     have e0 := A2.cell 0
     have e1 := A2.cell 1
     have e2 := A2.cell 2
     have e3 := A2.cell 3
     simp only [List.getElem?_toArray, List.getElem?_cons_zero, List.getElem?_cons_succ] at e0 e1 e2 e3
     clear d0 d1 d2 d3 A1 A2 c2 hiA hgoA hW1
     go_wp2_with fail
     refine Calls.mono (hr.out xn xm xp xo _ C2.out) ?_
     rintro e w3 ⟨⟨so, sc, LB, EB, rfl, hiB, hgoB⟩, c3⟩
     obtain ⟨rfl, rfl⟩ := hgoA'.out.uniq hgoB
     have C3 := hid (C2.out.trans (c3.mono C2.out.size))
     obtain ⟨K, hK⟩ : ∃ K, Hid (LA.length = K) := ⟨_, rfl⟩
     have hKb : K ≤ 4611686018427387904 := by
      have := hK.out
      rcases hgoA'.out with ⟨-, h, -⟩ | ⟨-, -, h, -⟩ | ⟨hf, k, n, -, hn, h, -⟩
      ·subst h; simp at this; omega
      ·subst h; simp at this; omega
      ·have h1 := frm_node hf hn
       have h2 := ris_nodup (byN_ris (h1.2.1.sublist (gtL_sub xm xp xo n.steps n.tos)) t.length)
       have h3 := nodup_le (B := n.tos) h2 (fun x hx => (gtL_sub xm xp xo n.steps n.tos).subset (byN_mem.1 hx).1)
       have h4 := hmid.out.2.2.2 n (List.mem_of_getElem? hn)
       rw [h] at this
       omega
     have hsb := hid (sameZ_calls LA K hK hKb ro so rc sc w3 (hiA'.out.kept c3) hiB)
     clear e0 e1 e2 e3 c3 hiA' hiB hgoB hgoA'
     rw [hK.out]
     go_wp2_with fail
     refine Calls.mono hsb.out ?_
     rintro e w4 ⟨rfl, c4⟩
     have C4 := hid (C3.out.trans (c4.mono C3.out.size))
     have ee : (EA != EA) = false := by simp
     clear c4 hsb
     go_wp2
     go_roundw
     case rel => exact ⟨i + 1, hlt'.out, by simp, C4⟩
     case measure => simp [intOf]; have := hlt'.out; omega
    ·have f1 : decide ((i : Int) < 300) = false := decide_eq_false (by omega)
     have f2 : decide (i < 300) = false := decide_eq_false h3
     go_wp2
     go_ret
     exact ⟨rfl, hb.out⟩
   ·obtain rfl : i = M := by omega
    go_wp2
    go_ret
    exact ⟨rfl, hb.out⟩
end Go.Proofs.YtbabdhepnjacdaaDoor
