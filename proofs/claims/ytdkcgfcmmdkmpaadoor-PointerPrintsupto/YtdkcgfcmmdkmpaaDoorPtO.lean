/-
 How names are written, by the reference; the law PointerPrints, walked.
-/
import Derived.Test.YtdkcgfcmmdkmpaaDoorPtL
import Derived.Test.YtdkcgfcmmdkmpaaDoorTextsO
import Derived.Lib.BufferRead
import Derived.Laws.IdiomStrings
namespace Go.Proofs.YtdkcgfcmmdkmpaaDoor
open Go.RowKit Go.Shelf
/-- A row of bytes that grows. -/
def BytG (B : Nat) (W : World) (v : Value) (l : List UInt8) : Prop := W.ownsRow B 5 1 v l.length (Lib.byteCells l)
theorem BytG.nil (B : Nat) (W : World) : BytG B W (.slice none 0 0) [] := by
 unfold BytG
 simpa [Lib.byteCells] using World.ownsRow_nil W B 5 1
theorem BytG.kept {B : Nat} {W W' : World} {v : Value} {l : List UInt8} (h : BytG B W v l) (hb : Below W.heap.size W W') : BytG B W' v l := World.ownsRow.kept h (grown_of_below hb) (by
 rcases rowY_block h with e | ⟨g, cur, e, _⟩
 ·exact .inl e
 ·exact .inr (by rw [e]; simp))
theorem BytG.conv {B : Nat} {w : World} {v : Value} {l : List UInt8} (h : BytG B w v l) : (convert 26 9 v).run Tryd.prog w = .ok (.string (mkL l)) w := by
 unfold BytG at h
 rcases h.2 with ⟨rfl, h0⟩ | ⟨g, cap, cur, rfl, hb, hgb, h3⟩
 ·obtain rfl : l = [] := List.length_eq_zero_iff.1 h0
  exact Lib.run_convert_nil_bytes w 26 9 5 0 Tryd.underlying26 Tryd.underlying5 Tryd.underlying9
 ·exact run_convert_bytes_back (P := Tryd.prog) w 26 9 5 ⟨g, 0, none⟩ cap l Tryd.underlying26 Tryd.underlying5 Tryd.underlying9 (fun j hj => by
   exact h.cells (g := g) rfl j _ (by
    unfold Lib.byteCells
    rw [List.getElem?_map, List.getElem?_eq_getElem hj]
    rfl))
theorem BytG.slice {B : Nat} {w : World} {v : Value} {l : List UInt8} (h : BytG B w v l) : ∃ so c, v = .slice so l.length c := rowY_slice h
theorem BytG.blk {B : Nat} {w : World} {v : Value} {l : List UInt8} (h : BytG B w v l) (b : Nat) (e : v.ownBlock = some b) : B ≤ b := (World.ownsRow.lt h b e).1
/-- One byte, two bytes more. -/
theorem wpList_byt1 {ops : Array Oper} {rest : List Oper} {o : Oper} {a : Act} {w : World} {Q : Exit → Act → World → Prop} (hgd : o.guard = none) (sl x : Operand)
  (ho : o.op = .call { callee := .builtin .append, args := #[sl, x], argTypes := #[26, 26] }) (base : Nat) (v : Value) (l : List UInt8) (hs : a.eval sl = v) (hown : BytG base w v l) (b : Nat) (k : UInt8) (C : Int) (hC : Hid (C = (k.toNat : Int))) (hx : a.eval x = .slice (some ⟨b, 0, none⟩) 1 1) (hc : w.cell? ⟨b, 0, none⟩ = some (.int .u8 C))
  (hn : l.length + 1 ≤ 140737488355328) (hbase : base ≤ w.heap.size)
  (h : ∀ v' w', BytG base w' v' (l ++ [k]) → w.grownBy w' v.ownBlock → wpList Tryd.prog ops Q rest (a.put o.dst v') w') : wpList Tryd.prog ops Q (o :: rest) a w := by
 refine wpList_append_byte hgd sl x ho base v _ _ hs hown b C hx hc hn hbase (fun v' w' h1 h2 => h v' w' ?_ h2)
 unfold BytG
 rw [List.length_append, Lib.byteCells_append]
 rw [hC.out] at h1
 exact h1
theorem wpList_byt2 {ops : Array Oper} {rest : List Oper} {o : Oper} {a : Act} {w : World} {Q : Exit → Act → World → Prop} (hgd : o.guard = none) (sl x : Operand)
  (ho : o.op = .call { callee := .builtin .append, args := #[sl, x], argTypes := #[26, 9] }) (base : Nat) (v : Value) (l : List UInt8) (hs : a.eval sl = v) (hown : BytG base w v l) (p q : UInt8) (hx : a.eval x = .string ⟨#[p, q]⟩)
  (hn : l.length + 2 ≤ 140737488355328) (hbase : base ≤ w.heap.size)
  (h : ∀ v' w', BytG base w' v' (l ++ [p, q]) → w.grownBy w' v.ownBlock → wpList Tryd.prog ops Q rest (a.put o.dst v') w') : wpList Tryd.prog ops Q (o :: rest) a w := by
 refine wpList_append_str hgd sl x ho base v _ _ hs hown ⟨#[p, q]⟩ hx hn hbase (fun v' w' h1 h2 _ => h v' w' ?_ h2)
 unfold BytG
 rw [List.length_append, Lib.byteCells_append]
 exact h1
theorem wrN_app : ∀ a b : List UInt8, wrN (a ++ b) = wrN a ++ wrN b
 | [], b => rfl
 | c :: t, b => by
  rw [List.cons_append, wrN, wrN, wrN_app t b]
  split
  ·rfl
  ·split <;> rfl
theorem wrN_take {a : List UInt8} {j : Nat} {c : UInt8} (h : a[j]? = some c) : wrN (a.take (j + 1)) = wrN (a.take j) ++ (if c = 126 then [126, 48] else if c = 47 then [126, 49] else [c]) := by
 rw [List.take_add_one, h, wrN_app]
 rfl
theorem wrN_part (a : List UInt8) (j : Nat) : (wrN (a.take j)).length ≤ (wrN a).length := by
 conv => rhs; rw [← List.take_append_drop j a, wrN_app, List.length_append]
 omega
set_option maxRecDepth 10000 in
set_option maxHeartbeats 8000000 in
theorem printR_calls (L : List (List UInt8)) (ao : Option Addr) (N cap : Nat) (hN : Hid (L.length = N)) (hn : N ≤ 4294967296) (he : Hid (∀ a ∈ L, a.length ≤ 2147483640)) (hw : Hid ((wrL L).length ≤ 140737488355328)) (w : World) (hk : Hid (KeysAt w ao (L.map mkL))) :
  Calls Tryd.prog 5 #[.slice ao N cap] w fun e w' => e = .returned (.string (mkL (wrL L))) ∧ Below w.heap.size w w' := by
 have hNi : (N : Int) ≤ 4294967296 := by omega
 go_enter Tryd.func5, Tryd.ntmps5
 go_wp2
 go_loopw [3, 4] (fun vv ii wr => ∃ i : Nat, i ≤ N ∧ ii = .int .i64 (i : Int) ∧ Hid (BytG w.heap.size wr vv (wrL (L.take i))) ∧ Hid (Below w.heap.size w wr)) (fun _ ii _ => N - (intOf ii).toNat)
 case atStart => exact ⟨0, Nat.zero_le _, rfl, hid (BytG.nil _ _), hid (Below.refl _ _)⟩
 case round =>
  obtain ⟨i, hi, rfl, hD, hB⟩ := hrel
  by_cases hlt : i < N
  ·have hii : (i : Int) < (N : Int) := by omega
   obtain ⟨a, ha⟩ : ∃ a, L[i]? = some a := ⟨_, List.getElem?_eq_getElem (by rw [hN.out]; exact hlt)⟩
   obtain ⟨-, g, o, rfl, hg, cg⟩ := hk.out i (mkL a) (by rw [List.getElem?_map, ha]; rfl)
   have hal := he.out a (List.mem_of_getElem? ha)
   have hw1 := hid (wrL_take ha)
   have hw2 := Nat.le_trans (wrL_part L (i + 1)) hw.out
   rw [hw1.out] at hw2
   simp only [List.length_append] at hw2
   obtain ⟨so, cv, rfl⟩ := hD.out.slice
   have qz : Below wr.heap.size wr (wr.alloc (.cells #[.int .u8 47] 5)) := (Below.refl _ _).alloc (Nat.le_refl _) _
   have D2 := hid (hD.out.kept qz)
   have B2 := hid (hB.out.trans (qz.mono hB.out.size))
   have hlen1 := hid (show (wrL (L.take i)).length + 1 ≤ 140737488355328 by simp at hw2; omega)
   have hasz : (mkL a).size = a.length := mkL_size a
   have haz := hid (fun (j : Nat) (x : UInt8) (h : a[j]? = some x) => lk_mkL a j x h)
   generalize mkL a = az at cg hasz haz
   have hasi : (az.size : Int) ≤ 2147483640 := by omega
   have hw2' := hid hw2
   generalize hP : wrL (L.take i) = P at D2 hlen1 hw1 hw2' ⊢
   have cg' := hid cg
   have hg' := hid hg
   clear qz ha hal hw2 hD hB hP cg hg
   go_wp2_with (at_builtin; refine wpList_byt1 rfl _ _ rfl w.heap.size _ P rfl D2.out _ 47 47 (hid rfl) rfl (by simp) hlen1.out B2.out.size ?_; intro v' w' h1 hg1; have D3 := hid h1; have B3 := hid (B2.out.grown hg1 B2.out.size (fun b e => D2.out.blk b e)); clear h1 hg1)
   go_loopw [3, 5] (fun vv jj wr => ∃ j : Nat, j ≤ az.size ∧ jj = .int .i64 (j : Int) ∧ Hid (BytG w.heap.size wr vv (P ++ [47] ++ wrN (a.take j))) ∧ Hid (Below w.heap.size w wr)) (fun _ jj _ => az.size - (intOf jj).toNat)
   case atStart => exact ⟨0, Nat.zero_le _, rfl, by rw [List.take_zero]; simpa [wrN] using D3, B3⟩
   case round =>
    clear D2 B2 D3 B3
    obtain ⟨j, hj, rfl, hD, hB⟩ := hrel
    have s1 := (hB.out.cell (p := ⟨g, o + i, none⟩) hg'.out).trans cg'.out
    obtain ⟨so, cv, rfl⟩ := hD.out.slice
    by_cases hjl : j < az.size
    ·have hji : (j : Int) < (az.size : Int) := by omega
     obtain ⟨c, hc⟩ : ∃ c, a[j]? = some c := ⟨_, List.getElem?_eq_getElem (by rw [← hasz]; exact hjl)⟩
     have hcv : (az[j]'hjl).toNat = c.toNat := by rw [← lk_at az j hjl]; exact haz.out j c hc
     have hnx := wrN_take hc
     have hpl := wrN_part a (j + 1)
     rw [hnx] at hpl
     have hQl : (P ++ [47] ++ wrN (a.take j)).length + (if c = 126 then [126, 48] else if c = 47 then [126, 49] else [c]).length ≤ 140737488355328 := by
      have := hw2'.out
      simp only [List.length_append] at hpl this ⊢
      omega
     have hnx' := hid (show P ++ [47] ++ wrN (a.take (j + 1)) = P ++ [47] ++ wrN (a.take j) ++ (if c = 126 then [126, 48] else if c = 47 then [126, 49] else [c]) by rw [hnx]; simp)
     generalize P ++ [47] ++ wrN (a.take j) = Z at hD hQl hnx' ⊢
     by_cases h126 : c = 126
     ·subst h126
      rw [if_pos rfl] at hQl hnx'
      have hcv' : ((az[j]'hjl).toNat : Int) = 126 := by rw [hcv]; rfl
      have hQ := hid (show Z.length + 2 ≤ 140737488355328 from hQl)
      clear hc hcv hnx hpl hQl
      go_wp2_with (at_builtin; refine wpList_byt2 rfl _ _ rfl w.heap.size _ Z rfl hD.out 126 48 rfl hQ.out hB.out.size ?_; intro v' w' h1 hg1; have D4 := hid h1; have B4 := hid (hB.out.grown hg1 hB.out.size (fun b e => hD.out.blk b e)); clear h1 hg1)
      go_roundw
      case rel => exact ⟨j + 1, by omega, by simp, by rw [hnx'.out]; exact D4, B4⟩
      case measure => simp [intOf]; omega
     ·rw [if_neg h126] at hQl hnx'
      have hn126 : ((az[j]'hjl).toNat : Int) ≠ 126 := by
       rw [hcv]
       intro h
       exact h126 (UInt8.toNat_inj.1 (show c.toNat = 126 by omega))
      by_cases h47 : c = 47
      ·subst h47
       rw [if_pos rfl] at hQl hnx'
       have hcv' : ((az[j]'hjl).toNat : Int) = 47 := by rw [hcv]; rfl
       have hQ := hid (show Z.length + 2 ≤ 140737488355328 from hQl)
       clear hc hcv hnx hpl hQl h126 hn126
       go_wp2_with (at_builtin; refine wpList_byt2 rfl _ _ rfl w.heap.size _ Z rfl hD.out 126 49 rfl hQ.out hB.out.size ?_; intro v' w' h1 hg1; have D4 := hid h1; have B4 := hid (hB.out.grown hg1 hB.out.size (fun b e => hD.out.blk b e)); clear h1 hg1)
       go_roundw
       case rel => exact ⟨j + 1, by omega, by simp, by rw [hnx'.out]; exact D4, B4⟩
       case measure => simp [intOf]; omega
      ·rw [if_neg h47] at hQl hnx'
       have hn47 : ((az[j]'hjl).toNat : Int) ≠ 47 := by
        rw [hcv]
        intro h
        exact h47 (UInt8.toNat_inj.1 (show c.toNat = 47 by omega))
       have hQ := hid (show Z.length + 1 ≤ 140737488355328 from hQl)
       have hCC := hid (show ((az[j]'hjl).toNat : Int) = (c.toNat : Int) by rw [hcv])
       have qz : Below wr.heap.size wr (wr.alloc (.cells #[.int .u8 ((az[j]'hjl).toNat : Int)] 5)) := (Below.refl _ _).alloc (Nat.le_refl _) _
       have D2 := hid (hD.out.kept qz)
       have B2 := hid (hB.out.trans (qz.mono hB.out.size))
       clear hc hcv hnx hpl hQl h126 h47 qz hD hB
       go_wp2_with (at_builtin; refine wpList_byt1 rfl _ _ rfl w.heap.size _ Z rfl D2.out _ c _ hCC rfl (by simp) hQ.out B2.out.size ?_; intro v' w' h1 hg1; have D4 := hid h1; have B4 := hid (B2.out.grown hg1 B2.out.size (fun b e => D2.out.blk b e)); clear h1 hg1)
       go_roundw
       case rel => exact ⟨j + 1, by omega, by simp, by rw [hnx'.out]; exact D4, B4⟩
       case measure => simp [intOf]; omega
    ·obtain rfl : j = az.size := by omega
     have hat : a.take az.size = a := List.take_of_length_le (by rw [hasz]; exact Nat.le_refl _)
     rw [hat, ← hw1.out] at hD
     generalize hz : (P ++ [47] ++ wrN (a.take az.size)).length = z
     go_wp2
     go_roundw
     case rel => exact ⟨i + 1, by omega, by simp, by rw [← hz, hat, ← hw1.out]; exact hD, hB⟩
     case measure => simp [intOf]; omega
  ·obtain rfl : i = N := by omega
   have hL : L.take i = L := List.take_of_length_le (by rw [hN.out]; exact Nat.le_refl _)
   rw [hL] at hD
   have hcv := hD.out.conv
   go_wp2
   go_ret
   exact ⟨rfl, hB.out⟩
end Go.Proofs.YtdkcgfcmmdkmpaaDoor
