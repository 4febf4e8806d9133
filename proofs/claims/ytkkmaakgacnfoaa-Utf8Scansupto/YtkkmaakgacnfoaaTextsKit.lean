/-
  A list of texts that comes in; its texts put together; what the second form's bound gives of it; an append of a text to a row of bytes.
-/
import Derived.Test.YtkkmaakgacnfoaaUtf8Rows
import Derived.Test.YtkkmaakgacnfoaaUtf8Goes
import Derived.Test.YtkkmaakgacnfoaaRows
import Derived.SliceStrings
namespace Go.Proofs.Ytkkmaakgacnfoaa
open Go.ChangeShapes Go.WideShapes Go.ChangeAt Go.RowKit

/-- The slice's cells hold these texts. -/
def TextsOf (w : World) (ao : Option Addr) (ss : List ByteArray) : Prop := ∀ (i : Nat) (s : ByteArray), ss[i]? = some s → ∃ b off, ao = some ⟨b, off, none⟩ ∧ b < w.heap.size ∧ w.cell? ⟨b, off + i, none⟩ = some (.string s)
def sizesS : List ByteArray → Nat
  | [] => 0
  | s :: r => s.size + 1 + sizesS r
def TextsD {H : Type} (d : DataW H) (ss : List ByteArray) : Prop := ss = [] ∨ ∃ sp, d = .slice (strs ss) sp
section
variable {H : Type} {enc : TypeId × Value → H} {P : Program} {w : World} {base : Nat} {spare : Nat → Bool} {held : Bool}
theorem cell_lt5 {w : World} {a : Addr} {v : Value} (h : w.cell? a = some v) : a.block < w.heap.size := by
  unfold World.cell? at h
  cases ho : w.heap[a.block]? with
  | none => simp [ho] at h
  | some o => exact (Array.getElem?_eq_some_iff.1 ho).1
theorem open_texts {r : Reach} {b0 : Nat} {t e : TypeId} {v : Value} {d : DataW H} {ps : List MemPlace} (ht : P.underlying t = some (.slice e)) (he : P.underlying e = some .string) (hc : P.cellsOf e = 1)
    (hval : Value.okWide P w r b0 t v) (hd : DataW.Trod enc P w base spare held t v d ps) :
    ∃ (ao : Option Addr) (cap : Nat) (ss : List ByteArray), v = .slice ao ss.length cap ∧ TextsOf w ao ss ∧ TextsD d ss := by
  obtain ⟨ao, len, cap, rfl⟩ := okWide_slice ht hval
  obtain ⟨fuel, hf⟩ := hd
  rcases open_strings ht he hc hf with ⟨hcs, _⟩ | ⟨a, len', cap', ss, hcs, _, hl, hm, hz, hx, hcell, hwz⟩
  · simp [Value.cells] at hcs
    obtain ⟨rfl, rfl, rfl⟩ := hcs
    exact ⟨none, 0, [], rfl, fun i s h => by simp at h, .inl rfl⟩
  · simp [Value.cells] at hcs
    obtain ⟨rfl, rfl, rfl⟩ := hcs
    have hlz : len ≤ ss.length := by rw [hz]; split <;> omega
    refine ⟨some a, cap, ss.take len, by rw [List.length_take, Nat.min_eq_left hlz], fun i s hi => ?_, .inr ⟨_, congrArg Prod.fst hx⟩⟩
    have hi2 := (List.getElem?_eq_some_iff.1 hi).1
    rw [List.length_take] at hi2
    obtain ⟨b, off, spot⟩ := a
    have hspot : spot = none := by simpa [Addr.add] using World.cell?_spot (hcell 0 (by omega))
    subst hspot
    have hci := hcell i (by omega)
    have e : (⟨b, off, none⟩ : Addr).add i = ⟨b, off + i, none⟩ := by by_cases h : i = 0 <;> simp [Addr.add, h]
    rw [List.getElem?_take_of_lt (by omega)] at hi
    rw [e, List.getD_eq_getElem?_getD, hi] at hci
    exact ⟨b, off, rfl, cell_lt5 hci, hci⟩
end
theorem bulk_strs {H : Type} (ss : List ByteArray) : sizesS ss ≤ Rows.uptoBulkAll (strs (H := H) ss) := by
  induction ss with
  | nil => exact Nat.zero_le _
  | cons s r ih =>
    have e : s.data.toList.length = s.size := (by rw [Array.length_toList]; rfl)
    show s.size + 1 + sizesS r ≤ Rows.uptoBulkAll (DataW.lit (.string s.data.toList) :: strs r)
    simp only [Rows.uptoBulkAll, Rows.uptoBulk]
    omega
theorem bulk_texts {H : Type} {d : DataW H} {ss : List ByteArray} (h : TextsD d ss) : sizesS ss ≤ Rows.uptoBulk d := by
  rcases h with rfl | ⟨sp, rfl⟩
  · exact Nat.zero_le _
  · have := bulk_strs (H := H) ss
    simp only [Rows.uptoBulk]
    omega
/-- The texts, one behind the other. -/
def catL (l : List ByteArray) : ByteArray := l.foldl (· ++ ·) ByteArray.empty
theorem catL_snoc (l : List ByteArray) (s : ByteArray) : catL (l ++ [s]) = catL l ++ s := by unfold catL; rw [List.foldl_append]; rfl
theorem catL_take (l : List ByteArray) (i : Nat) (s : ByteArray) (h : l[i]? = some s) : catL (l.take (i + 1)) = catL (l.take i) ++ s := by rw [List.take_add_one, h]; exact catL_snoc _ _
theorem fold_size (l : List ByteArray) : ∀ a : ByteArray, (l.foldl (· ++ ·) a).size + l.length = a.size + sizesS l := by
  induction l with
  | nil => intro a; rfl
  | cons s r ih =>
    intro a
    have := ih (a ++ s)
    rw [ByteArray.size_append] at this
    show (r.foldl (· ++ ·) (a ++ s)).size + (r.length + 1) = a.size + (s.size + 1 + sizesS r)
    omega
theorem sizesS_append (a b : List ByteArray) : sizesS (a ++ b) = sizesS a + sizesS b := by
  induction a with
  | nil => exact (Nat.zero_add _).symm
  | cons s r ih => show s.size + 1 + sizesS (r ++ b) = s.size + 1 + sizesS r + sizesS b; rw [ih]; omega
theorem catL_size (l : List ByteArray) (i : Nat) : (catL (l.take i)).size ≤ sizesS l := by
  have h1 := fold_size (l.take i) ByteArray.empty
  have h2 : ByteArray.empty.size = 0 := rfl
  have h3 := sizesS_append (l.take i) (l.drop i)
  rw [List.take_append_drop] at h3
  unfold catL
  omega
theorem len_sizesS (l : List ByteArray) : l.length ≤ sizesS l := by
  induction l with
  | nil => exact Nat.le_refl _
  | cons s r ih => show r.length + 1 ≤ s.size + 1 + sizesS r; omega

/-- all = append(all, text...): the row of bytes grows by the text's. -/
theorem wpList_append_str {ops : Array Oper} {rest : List Oper} {o : Oper} {a : Act} {w : World} {Q : Exit → Act → World → Prop} (hgd : o.guard = none) (x y : Operand)
    (ho : o.op = .call { callee := .builtin .append, args := #[x, y], argTypes := #[27, 9] }) (base : Nat) (v : Value) (S t : ByteArray) (hx : a.eval x = v) (hy : a.eval y = .string t)
    (hown : w.ownsRow base 5 1 v S.size (Lib.strCells S)) (hsz : S.size + t.size ≤ 4194304) (hbase : base ≤ w.heap.size)
    (h : ∀ v' w', w'.ownsRow base 5 1 v' (S ++ t).size (Lib.strCells (S ++ t)) → w.grownBy w' v.ownBlock → wpList Try.prog ops Q rest (a.put o.dst v') w') : wpList Try.prog ops Q (o :: rest) a w := by
  obtain ⟨i0, hi, hz0, hz1, hz2⟩ := info_parts infoU8
  obtain ⟨v', w', hr, r1, r2, -⟩ := Lib.run_append_own_string (P := Try.prog) w base 27 9 o.type 5 i0 Try.underlying27 Try.underlying9 hi hz0 hz1 hz2 v S.size (Lib.strCells S) hown t (by unfold maxLen; omega) (by omega) hbase
  rw [← strCells_append, ← ByteArray.size_append] at r1
  refine wpList_plain hgd fun K hK => ?_
  unfold Oper.wp execOp
  simp only [ho, resolve, invoke, builtin, Sem.run_bind, Sem.run_pure, Result.andThen_ok, List.map_toArray, List.map_cons, List.map_nil, hx, hy, hr]
  exact hK _ _ (h v' w' r1 r2)

/-- What a Feed answers. -/
theorem fed_eq (s : ByteArray) : (!(runS s5 (byts s)).wrong) = (badOf s == -1 || badOf s == (s.size : Int)) := by
  cases hw : (runS s5 (byts s)).wrong with
  | false =>
    rcases bad_at s with h | ⟨n, h1, h2, h3, h4⟩
    · rw [h]; rfl
    · by_cases e : n = s.size
      · rw [h1, e]; simp
      · have := h4 (by omega)
        have e1 : runS s5 (byts s) = runS s5 ((byts s).take (n + 1)) := by
          conv => lhs; rw [← List.take_append_drop (n + 1) (byts s), runS_append]
          exact runS_wrong this _
        rw [e1, this] at hw
        cases hw
  | true =>
    rcases bad_at s with h | ⟨n, h1, h2, h3, h4⟩
    · exact absurd h (badI_wrong hw)
    · by_cases e : n = s.size
      · rw [e, byts_whole, hw] at h3; cases h3
      · rw [h1]
        symm
        simp
        omega
/-- Two states that differ in nothing that counts. -/
def Like5 (s t : St5) : Prop := s.wrong = t.wrong ∧ s.q.left = t.q.left ∧ (s.q.left ≠ 0 → s.q = t.q)
theorem Like5.tk {s t : St5} (h : Like5 s t) (x : Nat) : Like5 (tk s x) (tk t x) := by
  obtain ⟨h1, h2, h3⟩ := h
  cases hw : s.wrong with
  | true => rw [tk_wrong hw, tk_wrong (h1 ▸ hw)]; exact ⟨h1, h2, h3⟩
  | false =>
    have hw' : t.wrong = false := h1 ▸ hw
    by_cases h0 : s.q.left = 0
    · have h0' : t.q.left = 0 := h2 ▸ h0
      have hs : ∀ q : Q5, q.left = 0 → stp q x = begQ q x := fun q h => by unfold stp; rw [if_pos h]
      cases hb : begQ s.q x with
      | none =>
        have hb' : begQ t.q x = none := by
          unfold begQ at hb ⊢
          split at hb
          · rename_i k; rw [if_pos k]
          · rename_i k; rw [if_neg k]
            split at hb
            · cases hb
            · rename_i k; rw [if_neg k]
              split at hb
              · cases hb
              · rename_i k; rw [if_neg k]
                split at hb
                · cases hb
                · rename_i k; rw [if_neg k]
                  split at hb
                  · rename_i k; rw [if_pos k]
                  · cases hb
        rw [tk_none hw ((hs _ h0).trans hb), tk_none hw' ((hs _ h0').trans hb')]
        exact ⟨rfl, h2, h3⟩
      | some q =>
        have hb' : ∃ q', begQ t.q x = some q' ∧ q.left = q'.left ∧ (q.left ≠ 0 → q = q') := by
          unfold begQ at hb ⊢
          split at hb
          · cases hb
          · rename_i k; rw [if_neg k]
            split at hb
            · rename_i k; rw [if_pos k]; cases hb; exact ⟨_, rfl, rfl, fun _ => rfl⟩
            · rename_i k; rw [if_neg k]
              split at hb
              · rename_i k; rw [if_pos k]; cases hb; exact ⟨_, rfl, rfl, fun _ => rfl⟩
              · rename_i k; rw [if_neg k]
                split at hb
                · rename_i k; rw [if_pos k]; cases hb; exact ⟨_, rfl, rfl, fun _ => rfl⟩
                · rename_i k; rw [if_neg k]
                  split at hb
                  · cases hb
                  · rename_i k; rw [if_neg k]; cases hb; exact ⟨_, rfl, h2, h3⟩
        obtain ⟨q', e1, e2, e3⟩ := hb'
        rw [tk_some hw ((hs _ h0).trans hb), tk_some hw' ((hs _ h0').trans e1)]
        exact ⟨rfl, e2, e3⟩
    · have hq := h3 h0
      cases hs : stp s.q x with
      | none => rw [tk_none hw hs, tk_none hw' (hq ▸ hs)]; exact ⟨rfl, h2, h3⟩
      | some q => rw [tk_some hw hs, tk_some hw' (hq ▸ hs)]; exact ⟨rfl, rfl, fun _ => rfl⟩
theorem Like5.run {s t : St5} (h : Like5 s t) (l : List Nat) : Like5 (runS s l) (runS t l) := by
  induction l generalizing s t with
  | nil => exact h
  | cons x l ih => exact ih (h.tk x)
theorem badI_iff (s : St5) : badI s = -1 ↔ s.wrong = false ∧ s.q.left = 0 := by
  constructor
  · intro h
    unfold badI at h
    split at h
    · omega
    · rename_i k
      cases hw : s.wrong with
      | true => exact absurd (.inl hw) k
      | false => exact ⟨rfl, by by_cases e : s.q.left = 0; exact e; exact absurd (.inr (by omega)) k⟩
  · exact fun h => badI_good h.1 h.2
/-- Two texts that are UTF-8 are so together. -/
theorem bad_cat {a b : ByteArray} (ha : badOf a = -1) (hb : badOf b = -1) : badOf (a ++ b) = -1 := by
  unfold badOf at *
  rw [byts_append, runS_append]
  have ha := (badI_iff _).1 ha
  have hb := (badI_iff _).1 hb
  have hl : Like5 (runS s5 (byts a)) s5 := ⟨ha.1, ha.2, fun k => absurd ha.2 k⟩
  have h := hl.run (byts b)
  exact badI_good (h.1.trans hb.1) (h.2.1.trans hb.2)
end Go.Proofs.Ytkkmaakgacnfoaa
