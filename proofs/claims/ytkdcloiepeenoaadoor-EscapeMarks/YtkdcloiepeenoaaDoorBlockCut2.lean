/-
  What block.Cut answers.
-/
import Derived.Test.YtkdcloiepeenoaaDoorBlockCut
import Derived.Test.YtkdcloiepeenoaaDoorBlockOf
import Derived.Laws.ResultCell
namespace Go.Proofs.YtkdcloiepeenoaaDoor
open Go.RowKit

/-- The 64 bytes of a text from a place on, filled up. -/
def cutF (s : ByteArray) (at_ : Int) (p i : Nat) : Nat := if 0 ≤ at_ ∧ at_ + i < s.size then byteAt s (at_.toNat + i) else p
/-- How many of them are the text's. -/
def cutN (s : ByteArray) (at_ : Int) : Nat := if 0 ≤ at_ ∧ at_ < s.size then Nat.min (s.size - at_.toNat) 64 else 0
theorem cutF_lt (s : ByteArray) (at_ : Int) (p : Nat) (hp : p < 256) (i : Nat) : cutF s at_ p i < 256 := by
  unfold cutF
  split
  · exact byteAt_lt _ _
  · exact hp
/-- The first 64 cells of a row hold the bytes f. -/
def Row64 (w : World) (b : Nat) (f : Nat → Nat) : Prop := ∃ cs : Array Value, At w b cs 5 ∧ 64 ≤ cs.size ∧ ∀ i, i < 64 → cs[i]? = some (.int .u8 ((f i : Nat) : Int))
theorem Row64.range {w : World} {b : Nat} {f : Nat → Nat} (h : Row64 w b f) {L : List Value} (hL : L.toArray = arr64 f) (hl : L.length = 64) : w.rangeAt b 0 L := fun j v hv => by
  obtain ⟨cs, hA, _, hc⟩ := h
  have hj : j < 64 := by
    have := (List.getElem?_eq_some_iff.1 hv).1
    omega
  rw [Nat.zero_add, hA.cell, hc j hj, ← arr64_at f j hj, ← hL]
  simpa using hv
/-- A text is put over the bytes p. -/
theorem copy_text (w : World) (b p : Nat) (t : ByteArray) (h : Padded w b 64 p) :
    ∃ w1, (Builtin.copy_ #[79, 9] 3 #[.slice (some ⟨b, 0, none⟩) 64 64, .string t]).run Tryd.prog w = .ok (.int .i64 ((Nat.min t.size 64 : Nat) : Int)) w1 ∧ Row64 w1 b (fun i => if i < t.size then byteAt t i else p) ∧ (∀ (b' : Nat) (ds : Array Value) (t' : TypeId), b' ≠ b → At w b' ds t' → At w1 b' ds t') ∧ ∀ (k : Nat) (w0 : World), Below k w0 w → k ≤ b → Below k w0 w1 := by
  obtain ⟨cs, hA, hs, hc⟩ := h
  have hm64 : Nat.min t.size 64 ≤ 64 := Nat.min_le_right _ _
  have hmt : Nat.min t.size 64 ≤ t.size := Nat.min_le_left _ _
  have hmx : ∀ i, i < 64 → (i < Nat.min t.size 64 ↔ i < t.size) := fun i hi => ⟨fun h => by omega, fun h => Nat.lt_min.2 ⟨h, hi⟩⟩
  have hrun : ∀ n, Nat.min t.size 64 = n → (Builtin.copy_ #[79, 9] 3 #[.slice (some ⟨b, 0, none⟩) 64 64, .string t]).run Tryd.prog w = ((storeCells ⟨b, 0, none⟩ ((t.extract 0 n).data.map fun b => Value.int .u8 (b.toNat : Int)).toList).run Tryd.prog w).andThen fun _ w' => .ok (goInt n) w' := by
    intro n hn
    have hsz : (sizeOf 5).run Tryd.prog w = .ok 1 w := by kernel_rfl
    simp only [Builtin.copy_, List.getElem?_toArray, List.getElem?_cons_zero, List.getElem?_cons_succ, Sem.run_bind, run_underlying Tryd.underlying79, Result.andThen_ok, Builtin.lenOf, Builtin.firstCells, Sem.run_pure, hsz, hn]
  generalize Nat.min t.size 64 = m at *
  have hl : (((t.extract 0 m).data.map fun b => Value.int .u8 (b.toNat : Int)).toList).length = m := by
    simp only [Array.length_toList, Array.size_map]
    show (t.extract 0 m).size = m
    rw [ByteArray.size_extract]
    omega
  have hV : ∀ i, i < m → (((t.extract 0 m).data.map fun b => Value.int .u8 (b.toNat : Int)).toList)[i]? = some (.int .u8 ((byteAt t i : Nat) : Int)) := by
    intro i hi
    have h1 : i < t.data.size := by show i < t.size; omega
    simp only [byteAt, ByteArray.data_extract, Array.getElem?_toList, Array.getElem?_map, Array.getElem?_extract, Nat.zero_add, Nat.sub_zero]
    rw [if_pos (by omega), Array.getElem?_eq_getElem h1]
    rfl
  have h1c : ∀ v ∈ ((t.extract 0 m).data.map fun b => Value.int .u8 (b.toNat : Int)).toList, v.oneCell' = true := fun v hv => by
    simp only [Array.toList_map, List.mem_map] at hv
    obtain ⟨x, _, rfl⟩ := hv
    rfl
  have hrun := hrun m rfl
  generalize ((t.extract 0 m).data.map fun b => Value.int .u8 (b.toNat : Int)).toList = V at *
  have hst := run_storeCells_cells (P := Tryd.prog) b 0 V 0 w
    (fun j hj => by rw [Nat.add_zero, Nat.zero_add, hA.cell, Array.getElem?_eq_getElem (by omega)]; rfl) (fun j _ => hA.frozen _) h1c
  refine ⟨w.setCells b 0 V, ?_, ?_, fun b' ds t' hne hD => hD.setCells_other hne _ _, ?_⟩
  · rw [hrun, hst]
    rfl
  · obtain ⟨ds, h1, h2, _, h4, h5⟩ := At.setCells_at V 0 hA (by omega)
    refine ⟨ds, h1, by omega, fun i hi => ?_⟩
    by_cases e : i < m
    · have := h4 i (by omega)
      rw [Nat.zero_add, hV i e] at this
      rw [this]
      simp only [(hmx i hi).1 e, if_true]
    · rw [h5 i (by omega), hc i hi]
      show _ = some (Value.int .u8 ((if i < t.size then byteAt t i else p : Nat) : Int))
      rw [if_neg (fun h => e ((hmx i hi).2 h))]
  · exact fun k w0 hb hk => below_setCells hb hk _ _

theorem Row64.congr {w : World} {b : Nat} {f g : Nat → Nat} (h : Row64 w b f) (e : ∀ i, i < 64 → f i = g i) : Row64 w b g := by
  obtain ⟨cs, hA, hs, hc⟩ := h
  exact ⟨cs, hA, hs, fun i hi => by rw [hc i hi, e i hi]⟩
theorem cut_bytes (s : ByteArray) (A p : Nat) (hA : A < s.size) (i : Nat) : (if i < (s.extract A s.size).size then byteAt (s.extract A s.size) i else p) = cutF s A p i := by
  have hsz : (s.extract A s.size).size = s.size - A := by rw [ByteArray.size_extract]; omega
  unfold cutF
  rw [hsz, Int.toNat_natCast]
  by_cases h : i < s.size - A
  · rw [if_pos h, if_pos ⟨by omega, by omega⟩]
    have h2 : A + i < s.data.size := by show A + i < s.size; omega
    simp only [byteAt, ByteArray.data_extract, Array.getElem?_extract]
    rw [if_pos (by show i < min s.size s.data.size - A; have : s.data.size = s.size := rfl; omega)]
  · rw [if_neg h, if_neg (by omega)]
theorem arrayAt64 (b n : Nat) (w : World) : (Instr.arrayAt 63 (.slice (some ⟨b, 0, none⟩) 64 n)).run Tryd.prog w = .ok (.pointer (some ⟨b, 0, none⟩)) w := by
  simp [Instr.arrayAt, run_underlying Tryd.underlying63]
theorem zero64 : #[.int .u8 0, .int .u8 0, .int .u8 0, .int .u8 0, .int .u8 0, .int .u8 0, .int .u8 0, .int .u8 0, .int .u8 0, .int .u8 0, .int .u8 0, .int .u8 0, .int .u8 0, .int .u8 0, .int .u8 0, .int .u8 0, .int .u8 0, .int .u8 0, .int .u8 0, .int .u8 0, .int .u8 0, .int .u8 0, .int .u8 0, .int .u8 0, .int .u8 0, .int .u8 0, .int .u8 0, .int .u8 0, .int .u8 0, .int .u8 0, .int .u8 0, .int .u8 0, .int .u8 0, .int .u8 0, .int .u8 0, .int .u8 0, .int .u8 0, .int .u8 0, .int .u8 0, .int .u8 0, .int .u8 0, .int .u8 0, .int .u8 0, .int .u8 0, .int .u8 0, .int .u8 0, .int .u8 0, .int .u8 0, .int .u8 0, .int .u8 0, .int .u8 0, .int .u8 0, .int .u8 0, .int .u8 0, .int .u8 0, .int .u8 0, .int .u8 0, .int .u8 0, .int .u8 0, .int .u8 0, .int .u8 0, .int .u8 0, .int .u8 0, .int .u8 0] = arr64 (fun _ => 0) := by rfl

set_option maxRecDepth 100000 in
set_option maxHeartbeats 1000000 in
theorem cut_nat (s : ByteArray) (a : Int) (p : Nat) (n : Nat) (Hn : Hid (cutN s a = n)) (w : World) :
    Calls Tryd.prog 58 #[.string s, .int .i64 a, .int .u8 (p : Int)] w fun e w' => e = .returned (.tuple #[.agg (arr64 (cutF s a p)), .int .i64 (n : Int)]) ∧ Below w.heap.size w w' := by
  go_enter Tryd.func58, Tryd.ntmps58
  go_wp2_with fail
  rw [zero64]
  have hR0 := (At.new w (arr64 fun _ => 0) 63).alloc (.cells #[.int .u8 (p : Int)] 5)
  have hQ0 := At.new (w.alloc (.cells (arr64 fun _ => 0) 63)) #[.int .u8 (p : Int)] 5
  have hB0 : Below w.heap.size w ((w.alloc (.cells (arr64 fun _ => 0) 63)).alloc (.cells #[.int .u8 (p : Int)] 5)) := by repeat (first | with_reducible exact Below.refl _ _ | with_reducible refine Below.setCell ?_ (by first | (simp; done) | (simp; omega)) _ | with_reducible refine below_drewN ?_ _ | with_reducible refine Below.alloc ?_ (by first | (simp; done) | (simp; omega)) _ | with_reducible refine Below.drew ?_)
  have hz0 : ((w.alloc (.cells (arr64 fun _ => 0) 63)).alloc (.cells #[.int .u8 (p : Int)] 5)).heap.size = w.heap.size + 2 := by simp
  simp only [World.size_alloc] at hQ0
  generalize (w.alloc (.cells (arr64 fun _ => 0) 63)).alloc (.cells #[.int .u8 (p : Int)] 5) = W0 at *
  refine (repeat_calls p (w.heap.size + 1) W0 hQ0).mono ?_
  rintro e w1 ⟨rfl, hP, hb⟩
  have hR1 := hR0.keptAll hb
  have hB1 := hB0.trans (hb.mono hB0.size)
  rw [hz0] at hP ⊢
  clear hR0 hQ0 hB0 hb hz0
  by_cases hin : 0 ≤ a ∧ a < s.size
  · obtain ⟨h0, h1⟩ := hin
    obtain ⟨A, rfl⟩ := Int.eq_ofNat_of_zero_le h0
    have hA : A < s.size := by omega
    have hsz : (s.extract A s.size).size = s.size - A := by rw [ByteArray.size_extract]; omega
    obtain ⟨W2, hrun2, hRow, hO2, hB2⟩ := copy_text w1 (w.heap.size + 2) p (s.extract A s.size) hP
    have hB2 := hB2 _ _ hB1 (by omega)
    have hR2 := hO2 w.heap.size _ _ (by omega) hR1
    have hcong : ∀ i, i < 64 → (fun i => if i < (s.extract A s.size).size then byteAt (s.extract A s.size) i else p) i = cutF s A p i := fun i _ => cut_bytes s A p hA i
    have hRow' := hRow.congr hcong
    have hn : Nat.min (s.extract A s.size).size 64 = n := by
      rw [← Hn.out, cutN, if_pos ⟨h0, h1⟩, hsz]; rfl
    rw [hn] at hrun2
    clear hRow hcong hP hR1 hB1 hO2
    obtain ⟨L, hLt, hLl⟩ := arr64_list (cutF s A p)
    have hL1 := arr64_one _ hLt
    have hiL : (Tryd.prog.info? 63).map (·.size) = some L.length := by rw [hLl]; exact info64
    have hrg := Row64.range hRow' hLt hLl
    have hth := At.there hR2 64 (arr64_size _)
    have hth' : W2.there w.heap.size 0 L.toArray.size := by simpa [hLl] using hth
    have hiL' : (Tryd.prog.info? 63).map (·.size) = some L.toArray.size := by simpa using hiL
    have hR3 := hR2.setCells L (by rw [arr64_size, hLl])
    have hB3 := below_setCells hB2 (Nat.le_refl _) L 0
    have har := arrayAt64 (w.heap.size + 2) 64
    generalize hW3 : (W2).setCells w.heap.size 0 L = W3 at hR3 hB3
    have hLt' : Hid (L.toArray = arr64 (cutF s A p)) := hLt
    clear hLt
    go_wp2_with (first
      | (refine wpList_load_mid rfl 63 _ rfl (w.heap.size + 2) 0 rfl L _ hrg Tryd.underlying63 rfl hiL ?_)
      | (refine wpList_store_mid rfl 63 _ _ rfl w.heap.size 0 L.toArray rfl rfl hth' hiL' (all_oneCell_toArray hL1) ?_))
    refine bodyPost_ret (v := .tuple #[.agg (arr64 (cutF s A p)), .int .i64 (n : Int)]) ?_ rfl ⟨rfl, hB3⟩
    rw [results_cell_tmp rfl]
    have hl3 := run_loadVar_mid (P := Tryd.prog) W3 w.heap.size 0 63 L _ (hR3.range rfl) Tryd.underlying63 rfl hiL
    rw [hLt'.out] at hl3
    simp [asAddr, hl3]
  · have hRow : Row64 w1 (w.heap.size + 2) (cutF s a p) := by
      obtain ⟨cs, hA, hs', hc⟩ := hP
      refine ⟨cs, hA, hs', fun i hi => ?_⟩
      rw [hc i hi, cutF, if_neg (by omega)]
    by_cases h0 : 0 ≤ a
    · obtain ⟨L, hLt, hLl⟩ := arr64_list (cutF s a p)
      have hL1 := arr64_one _ hLt
      have hiL : (Tryd.prog.info? 63).map (·.size) = some L.length := by rw [hLl]; exact info64
      have hrg := Row64.range hRow hLt hLl
      have hth := At.there hR1 64 (arr64_size _)
      have hth' : w1.there w.heap.size 0 L.toArray.size := by simpa [hLl] using hth
      have hiL' : (Tryd.prog.info? 63).map (·.size) = some L.toArray.size := by simpa using hiL
      have hR3 := hR1.setCells L (by rw [arr64_size, hLl])
      have hB3 := below_setCells hB1 (Nat.le_refl _) L 0
      have har := arrayAt64 (w.heap.size + 2) 64
      generalize hW3 : (w1).setCells w.heap.size 0 L = W3 at hR3 hB3
      have hLt' : Hid (L.toArray = arr64 (cutF s a p)) := hLt
      have hn : Hid ((0 : Int) = (n : Int)) := by rw [← Hn.out, cutN, if_neg hin]; rfl
      clear hLt
      have hw : ¬ a < (s.size : Int) := by omega
      go_wp2_with (first
        | (refine wpList_load_mid rfl 63 _ rfl (w.heap.size + 2) 0 rfl L _ hrg Tryd.underlying63 rfl hiL ?_)
        | (refine wpList_store_mid rfl 63 _ _ rfl w.heap.size 0 L.toArray rfl rfl hth' hiL' (all_oneCell_toArray hL1) ?_))
      refine bodyPost_ret (v := .tuple #[.agg (arr64 (cutF s a p)), .int .i64 0]) ?_ rfl ⟨by rw [hn.out], hB3⟩
      rw [results_cell_tmp rfl]
      have hl3 := run_loadVar_mid (P := Tryd.prog) W3 w.heap.size 0 63 L _ (hR3.range rfl) Tryd.underlying63 rfl hiL
      rw [hLt'.out] at hl3
      simp [asAddr, hl3]
    · obtain ⟨L, hLt, hLl⟩ := arr64_list (cutF s a p)
      have hL1 := arr64_one _ hLt
      have hiL : (Tryd.prog.info? 63).map (·.size) = some L.length := by rw [hLl]; exact info64
      have hrg := Row64.range hRow hLt hLl
      have hth := At.there hR1 64 (arr64_size _)
      have hth' : w1.there w.heap.size 0 L.toArray.size := by simpa [hLl] using hth
      have hiL' : (Tryd.prog.info? 63).map (·.size) = some L.toArray.size := by simpa using hiL
      have hR3 := hR1.setCells L (by rw [arr64_size, hLl])
      have hB3 := below_setCells hB1 (Nat.le_refl _) L 0
      have har := arrayAt64 (w.heap.size + 2) 64
      generalize hW3 : (w1).setCells w.heap.size 0 L = W3 at hR3 hB3
      have hLt' : Hid (L.toArray = arr64 (cutF s a p)) := hLt
      have hn : Hid ((0 : Int) = (n : Int)) := by rw [← Hn.out, cutN, if_neg hin]; rfl
      clear hLt
      have hw : a < 0 := by omega
      go_wp2_with (first
        | (refine wpList_load_mid rfl 63 _ rfl (w.heap.size + 2) 0 rfl L _ hrg Tryd.underlying63 rfl hiL ?_)
        | (refine wpList_store_mid rfl 63 _ _ rfl w.heap.size 0 L.toArray rfl rfl hth' hiL' (all_oneCell_toArray hL1) ?_))
      refine bodyPost_ret (v := .tuple #[.agg (arr64 (cutF s a p)), .int .i64 0]) ?_ rfl ⟨by rw [hn.out], hB3⟩
      rw [results_cell_tmp rfl]
      have hl3 := run_loadVar_mid (P := Tryd.prog) W3 w.heap.size 0 63 L _ (hR3.range rfl) Tryd.underlying63 rfl hiL
      rw [hLt'.out] at hl3
      simp [asAddr, hl3]
end Go.Proofs.YtkdcloiepeenoaaDoor
