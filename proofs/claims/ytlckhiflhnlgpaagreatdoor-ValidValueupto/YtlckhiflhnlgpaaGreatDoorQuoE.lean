/-
  QuoA, QuoB, one behind the other.
-/
import Derived.Test.YtlckhiflhnlgpaaGreatDoorEscB
import Derived.Test.YtlckhiflhnlgpaaGreatDoorKitA
import Derived.Test.YtlckhiflhnlgpaaGreatDoorBlockB
import Derived.Test.YtlckhiflhnlgpaaGreatDoorBitsF
/- QuoMath, SpanMath. -/
/-
  Of no program: the quotes of a text that count, and what stands between them.
-/
namespace Go.Proofs.YtlckhiflhnlgpaaGreatDoor

/-- Is the byte i a quote? -/
def quoB (s : ByteArray) (i : Nat) : Bool := decide ((s.data[i]?.getD 0).toNat = 34)
theorem quoB_at (s : ByteArray) (i : Nat) (h : i < s.size) : quoB s i = decide ((s[i]'h).toNat = 34) := by
  unfold quoB
  rw [Array.getElem?_eq_getElem (show i < s.data.size from h)]
  rfl
theorem quoB_out (s : ByteArray) (i : Nat) (h : s.size ≤ i) : quoB s i = false := by
  unfold quoB
  rw [Array.getElem?_eq_none (show s.data.size ≤ i from h)]
  rfl
/-- Is the byte i a quote that counts? -/
def markS (s : ByteArray) (i : Nat) : Bool := quoB s i && !escS s i
/-- Whether an odd number of those below n is set. -/
def oddG (G : Nat → Bool) : Nat → Bool
  | 0 => false
  | n + 1 => oddG G n ^^ G n
theorem oddG_succ (G : Nat → Bool) (n : Nat) : oddG G (n + 1) = (oddG G n ^^ G n) := rfl
theorem oddG_add (G : Nat → Bool) (a n : Nat) : oddG G (a + n) = (oddG G a ^^ oddG (fun i => G (a + i)) n) := by
  induction n with
  | zero => simp [oddG]
  | succ n ih => rw [← Nat.add_assoc, oddG_succ, oddG_succ, ih, Bool.xor_assoc]
theorem oddG_congr {G H : Nat → Bool} {n : Nat} (h : ∀ i, i < n → G i = H i) : oddG G n = oddG H n := by
  induction n with
  | zero => rfl
  | succ n ih => rw [oddG_succ, oddG_succ, ih (fun i hi => h i (by omega)), h n (by omega)]
theorem oddB_rowOf (G : Nat → Bool) {N n : Nat} (h : n ≤ N) : oddB (rowOf G N) n = oddG G n := by
  induction n with
  | zero => rfl
  | succ n ih => rw [oddB, oddG_succ, ih (by omega), rowOf_bit, decide_eq_true (by omega : n < N), Bool.true_and]
/-- Is the place i inside? -/
def inS (s : ByteArray) (i : Nat) : Bool := oddG (markS s) (i + 1)
/-- Does the text end inside? -/
def openS (s : ByteArray) : Bool := oddG (markS s) s.size
theorem rowOf_congr {G H : Nat → Bool} {N : Nat} (h : ∀ i, i < N → G i = H i) (j : Nat) : rowOf G N j = rowOf H N j :=
  rowOf_eq (rowOf_lt _ _ _) fun r hr => by
    rw [← bitAt_word _ _ _ hr, rowOf_bit]
    by_cases hl : 64 * j + r < N
    · rw [h _ hl]
    · rw [decide_eq_false hl]; rfl
theorem inS_row (s : ByteArray) (j : Nat) : rowOf (fun i => oddB (rowOf (markS s) s.size) (i + 1)) s.size j = rowOf (inS s) s.size j :=
  rowOf_congr (fun i hi => by unfold inS; exact oddB_rowOf _ (by omega)) j
/-- The quotes of the block r, as a word. -/
def quoW (s : ByteArray) (r : Nat) : Nat := mk (fun i => isB 34 (cutF s ((64 * r : Nat) : Int) 0 i)) 64
theorem quoW_lt (s : ByteArray) (r : Nat) : quoW s r < 18446744073709551616 := mk_lt64 _ 64 (by decide)
theorem quoW_bit (s : ByteArray) (r i : Nat) (hi : i < 64) : (quoW s r).testBit i = quoB s (64 * r + i) := by
  unfold quoW
  rw [mk_bit, decide_eq_true hi, Bool.true_and]
  unfold cutF isB
  by_cases h : 64 * r + i < s.size
  · rw [if_pos ⟨by omega, by omega⟩]
    rfl
  · rw [if_neg (by omega), quoB_out s _ (by omega)]
    rfl
theorem quoW_row (s : ByteArray) (r : Nat) : quoW s r &&& (18446744073709551615 - rowOf (escS s) s.size r) = rowOf (markS s) s.size r :=
  rowOf_eq (andNot_lt (quoW_lt s r)) fun i hi => by
    rw [andNot_bit (rowOf_lt _ _ _) hi, quoW_bit s r i hi, ← bitAt_word _ _ _ hi, rowOf_bit]
    unfold markS
    by_cases hl : 64 * r + i < s.size
    · rw [decide_eq_true hl]; rfl
    · rw [decide_eq_false hl, quoB_out s _ (by omega)]; rfl
/-- A row as far as its first r words are told; no bit behind them. -/
def rowUp (G : Nat → Bool) (n r : Nat) (j : Nat) : Nat := if j < r then rowOf G n j else 0
theorem rowUp_set (G : Nat → Bool) (n r j : Nat) : (if j = r then rowOf G n r else rowUp G n r j) = rowUp G n (r + 1) j := by
  unfold rowUp
  by_cases hr : j = r
  · rw [if_pos hr, if_pos (by omega), hr]
  · rw [if_neg hr]
    by_cases hj : j < r
    · rw [if_pos hj, if_pos (by omega)]
    · rw [if_neg hj, if_neg (by omega)]

/-- The control bytes. -/
def ctlB (s : ByteArray) (i : Nat) : Bool := decide ((s.data[i]?.getD 32).toNat < 32)
/-- The first place that is inside and has a control byte; or -1. -/
def IsCtl (s : ByteArray) (c : Int) : Prop :=
  (∃ p : Nat, c = p ∧ p < s.size ∧ inS s p = true ∧ ctlB s p = true ∧ ∀ i, i < p → (inS s i && ctlB s i) = false) ∨ (c = -1 ∧ ∀ i, i < s.size → (inS s i && ctlB s i) = false)
theorem IsCtl.uniq {s : ByteArray} {c d : Int} (h : IsCtl s c) (h' : IsCtl s d) : c = d := by
  rcases h with ⟨p, rfl, h1, h2, h3, hz⟩ | ⟨rfl, h1⟩ <;> rcases h' with ⟨q, rfl, h4, h5, h6, hy⟩ | ⟨rfl, h4⟩
  · rcases Nat.lt_trichotomy p q with h | h | h
    · have := hy p h; rw [h2, h3] at this; cases this
    · rw [h]
    · have := hz q h; rw [h5, h6] at this; cases this
  · have := h4 p h1; rw [h2, h3] at this; cases this
  · have := h1 q h4; rw [h5, h6] at this; cases this
  · rfl
end Go.Proofs.YtlckhiflhnlgpaaGreatDoor

/-
  Of no program: the spans between the marks of a text.
-/
namespace Go.Proofs.YtlckhiflhnlgpaaGreatDoor

/-- The first place from f on that is set, of k places; where there is none, the one behind them. -/
def nxtF (G : Nat → Bool) : Nat → Nat → Nat
  | 0, f => f
  | k + 1, f => if G f then f else nxtF G k (f + 1)
theorem nxtF_lo (G : Nat → Bool) (k f : Nat) : f ≤ nxtF G k f ∧ nxtF G k f ≤ f + k := by
  induction k generalizing f with
  | zero => exact ⟨Nat.le_refl _, Nat.le_refl _⟩
  | succ k ih =>
    rw [nxtF]
    split
    · omega
    · have := ih (f + 1); omega
theorem nxtF_hit (G : Nat → Bool) (k f : Nat) (h : nxtF G k f < f + k) : G (nxtF G k f) = true := by
  induction k generalizing f with
  | zero => rw [nxtF] at h; omega
  | succ k ih =>
    rw [nxtF] at h ⊢
    split
    · assumption
    · rename_i hf
      rw [if_neg hf] at h
      exact ih (f + 1) (by omega)
theorem nxtF_gap (G : Nat → Bool) (k f i : Nat) (h1 : f ≤ i) (h2 : i < nxtF G k f) : G i = false := by
  induction k generalizing f with
  | zero => rw [nxtF] at h2; omega
  | succ k ih =>
    rw [nxtF] at h2
    split at h2
    · omega
    · rename_i hf
      by_cases he : i = f
      · rw [he]; simpa using hf
      · exact ih (f + 1) (by omega) h2
/-- The first place from f on and below n that is set; where there is none, n. -/
def nxt (G : Nat → Bool) (n f : Nat) : Nat := nxtF G (n - f) f
section
variable {G : Nat → Bool} {n f i : Nat}
theorem nxt_lo : f ≤ nxt G n f := (nxtF_lo G _ f).1
theorem nxt_le (h : f ≤ n) : nxt G n f ≤ n := by have := (nxtF_lo G (n - f) f).2; unfold nxt; omega
theorem nxt_hit (h : nxt G n f < n) : G (nxt G n f) = true := nxtF_hit G _ f (by have := nxt_lo (G := G) (n := n) (f := f); unfold nxt at h this; omega)
theorem nxt_gap (h1 : f ≤ i) (h2 : i < nxt G n f) : G i = false := nxtF_gap G _ f i h1 h2
end
/-- The spans from f on. -/
def spansF (G : Nat → Bool) (n : Nat) : Nat → Nat → List (Nat × Nat)
  | 0, _ => []
  | k + 1, f => if nxt G n f < n then (nxt G n f + 1, nxt G n (nxt G n f + 1)) :: spansF G n k (nxt G n (nxt G n f + 1) + 1) else []
theorem spansF_fuel (G : Nat → Bool) (n : Nat) (k k' f : Nat) (h : n < f + k) (h' : n < f + k') : spansF G n k f = spansF G n k' f := by
  induction k generalizing k' f with
  | zero =>
    cases k' with
    | zero => rfl
    | succ k' =>
      rw [spansF, spansF, if_neg]
      have := nxt_lo (G := G) (n := n) (f := f); omega
  | succ k ih =>
    cases k' with
    | zero =>
      rw [spansF, spansF, if_neg]
      have := nxt_lo (G := G) (n := n) (f := f); omega
    | succ k' =>
      rw [spansF, spansF]
      have h1 := nxt_lo (G := G) (n := n) (f := f)
      have h2 := nxt_lo (G := G) (n := n) (f := nxt G n f + 1)
      rw [ih k' _ (by omega) (by omega)]
/-- The spans from f on, as many as there are. -/
def spansAt (G : Nat → Bool) (n f : Nat) : List (Nat × Nat) := spansF G n (n + 1) f
theorem spansAt_t {G : Nat → Bool} {n f : Nat} (h : nxt G n f < n) : spansAt G n f = (nxt G n f + 1, nxt G n (nxt G n f + 1)) :: spansAt G n (nxt G n (nxt G n f + 1) + 1) := by
  unfold spansAt
  rw [spansF, if_pos h]
  congr 1
  have h1 := nxt_lo (G := G) (n := n) (f := nxt G n f + 1)
  exact spansF_fuel G n _ _ _ (by omega) (by omega)
theorem spansAt_f {G : Nat → Bool} {n f : Nat} (h : ¬ nxt G n f < n) : spansAt G n f = [] := by
  unfold spansAt
  rw [spansF, if_neg h]
/-- The spans of a text. -/
def spansS (s : ByteArray) : List (Nat × Nat) := spansAt (markS s) s.size 0
/-- r of the spans are gone through, and the next ones are looked for from f on. -/
def SpAt (s : ByteArray) (r f : Nat) : Prop := (spansS s).drop r = spansAt (markS s) s.size f ∧ r ≤ (spansS s).length ∧ f ≤ s.size + 1 ∧ (f ≤ s.size → oddG (markS s) f = false)
theorem oddG_same {G : Nat → Bool} {a b : Nat} (h : a ≤ b) (hz : ∀ i, a ≤ i → i < b → G i = false) : oddG G b = oddG G a := by
  obtain ⟨d, rfl⟩ : ∃ d, b = a + d := ⟨b - a, by omega⟩
  clear h
  induction d with
  | zero => rfl
  | succ d ih => rw [← Nat.add_assoc, oddG_succ, ih (fun i h1 h2 => hz i h1 (by omega)), hz (a + d) (by omega) (by omega), Bool.xor_false]
/-- The next span. -/
structure SpNext (s : ByteArray) (r f o c : Nat) : Prop where
  lt : r < (spansS s).length
  at_ : (spansS s)[r]? = some (o + 1, c)
  next : SpAt s (r + 1) (c + 1)
  fo : f ≤ o
  on : o < s.size
  oc : o < c
  cn : c ≤ s.size
  mo : markS s o = true
  mc : c < s.size → markS s c = true
  ahead : ∀ i, f ≤ i → i < o → markS s i = false
  within : ∀ i, o < i → i < c → markS s i = false
  outside : ∀ i, f ≤ i → i < o → inS s i = false
  inside : ∀ i, o ≤ i → i < c → inS s i = true
  last : c < s.size → inS s c = false
theorem SpAt.step {s : ByteArray} {r f o : Nat} (h : SpAt s r f) (ho : nxt (markS s) s.size f = o) (hlt : o < s.size) : SpNext s r f o (nxt (markS s) s.size (o + 1)) := by
  obtain ⟨h1, h2, h3, h4⟩ := h
  obtain ⟨c, hc⟩ : ∃ c, nxt (markS s) s.size (o + 1) = c := ⟨_, rfl⟩
  rw [hc]
  rw [spansAt_t (by rw [ho]; exact hlt), ho, hc] at h1
  have hlen : r < (spansS s).length := by
    by_cases h : r < (spansS s).length
    · exact h
    · rw [List.drop_eq_nil_of_le (by omega)] at h1; cases h1
  rw [List.drop_eq_getElem_cons hlen] at h1
  obtain ⟨e1, e2⟩ := List.cons.inj h1
  have hfo : f ≤ o := by have := nxt_lo (G := markS s) (n := s.size) (f := f); omega
  have hoc : o < c := by have := nxt_lo (G := markS s) (n := s.size) (f := o + 1); omega
  have hcn : c ≤ s.size := by rw [← hc]; exact nxt_le (by omega)
  have hmo : markS s o = true := by rw [← ho]; exact nxt_hit (by omega)
  have hmc : c < s.size → markS s c = true := fun h => by rw [← hc]; exact nxt_hit (by omega)
  have hah : ∀ i, f ≤ i → i < o → markS s i = false := fun i g1 g2 => nxt_gap g1 (by rw [ho]; exact g2)
  have hwi : ∀ i, o < i → i < c → markS s i = false := fun i g1 g2 => nxt_gap (f := o + 1) g1 (by rw [hc]; exact g2)
  have hf0 := h4 (by omega)
  have odd1 : ∀ i, f ≤ i → i ≤ o → oddG (markS s) i = false := fun i g1 g2 => (oddG_same g1 (fun j j1 j2 => hah j j1 (by omega))).trans hf0
  have odd2 : oddG (markS s) (o + 1) = true := by rw [oddG_succ, odd1 o hfo (Nat.le_refl _), hmo]; rfl
  have odd3 : ∀ i, o + 1 ≤ i → i ≤ c → oddG (markS s) i = true := fun i g1 g2 => (oddG_same g1 (fun j j1 j2 => hwi j (by omega) (by omega))).trans odd2
  have odd4 : c < s.size → oddG (markS s) (c + 1) = false := fun g => by rw [oddG_succ, odd3 c hoc (Nat.le_refl _), hmc g]; rfl
  exact { lt := hlen, at_ := by rw [List.getElem?_eq_getElem hlen, e1], next := ⟨e2, hlen, by omega, fun g => odd4 (by omega)⟩, fo := hfo, on := hlt, oc := hoc, cn := hcn, mo := hmo, mc := hmc, ahead := hah, within := hwi,
          outside := fun i g1 g2 => odd1 (i + 1) (by omega) g2, inside := fun i g1 g2 => odd3 (i + 1) (by omega) g2, last := odd4 }
/-- Behind the last span. -/
theorem SpAt.end {s : ByteArray} {r f : Nat} (h : SpAt s r f) (hno : ¬ nxt (markS s) s.size f < s.size) : r = (spansS s).length ∧ (∀ i, f ≤ i → i < s.size → markS s i = false) ∧ ∀ i, f ≤ i → i < s.size → inS s i = false := by
  obtain ⟨h1, h2, h3, h4⟩ := h
  rw [spansAt_f hno] at h1
  have hz : ∀ i, f ≤ i → i < s.size → markS s i = false := fun i g1 g2 => nxt_gap (n := s.size) g1 (by omega)
  refine ⟨?_, hz, fun i g1 g2 => ?_⟩
  · have := congrArg List.length h1
    rw [List.length_drop, List.length_nil] at this
    omega
  · unfold inS
    rw [oddG_same (a := f) (by omega) (fun j j1 j2 => hz j j1 (by omega))]
    exact h4 (by omega)
/-- Where r of the spans are gone through and there is one more. -/
theorem SpAt.more {s : ByteArray} {r f : Nat} (h : SpAt s r f) (hr : r < (spansS s).length) : nxt (markS s) s.size f < s.size := by
  by_cases ho : nxt (markS s) s.size f < s.size
  · exact ho
  · have := (h.end ho).1; omega
end Go.Proofs.YtlckhiflhnlgpaaGreatDoor

/- TellKit, BlockTell, QuoMarks, QuoInside. -/
/-
  A range over an iterator of which it is known, number by number, what it tells: the body is walked at the number that is next alone.
-/
namespace Go.Proofs.YtlckhiflhnlgpaaGreatDoor
open Go.RowKit Go.Shelf

section
variable {P : Program}
/-- An iterator's contract: it tells enc 0, enc 1, .. up to N of them, as long as the yield answers true; Kp is what it asks of each round. -/
def SeqTell (n : Nat) (P : Program) (g : Nat) (lb : Array Value) (enc : Nat → Array Value) (Kp : World → World → Prop) (N : Nat) (w : World) : Prop :=
  ∀ (l : Nat) (J Jx : Nat → World → Prop) (W : World), Below w.heap.size w W → AbidesFrom W.heap.size J → AbidesFrom W.heap.size Jx →
    (∀ r W1, J r W1 → r < N → YieldAt Fence.wide (n - 1) P l (enc r) W1 fun e W' =>
      (e = .returned (.bool true) ∧ J (r + 1) W' ∧ Kp W1 W') ∨ (e = .returned (.bool false) ∧ Jx (r + 1) W')) →
    J 0 W →
    CallsIn Fence.wide n P g (#[.func (.yield l) #[] #[]] ++ lb) W fun e W' => (∃ v, e = .returned v) ∧ (J N W' ∨ ∃ r, r ≤ N ∧ Jx r W')
/-- How the body of a round may be left. -/
def tellPost (B : Nat) (Kp : World → World → Prop) (I : Nat → World → Prop) (Ix : Code → Nat → World → Prop) (r : Nat) (W : World) : Exit → Act → World → Prop
  | .normal, _, W' => KeepsFrom B W W' ∧ Kp W W' ∧ I r W'
  | .ret, _, W' => KeepsFrom B W W' ∧ Ix .ret r W'
  | .exit id, _, W' => KeepsFrom B W W' ∧ Ix (.exit id) r W'
  | .goto t, _, W' => KeepsFrom B W W' ∧ Ix (.goto t) r W'
  | .panic _, _, _ => False
  | .outgrown, _, _ => False
theorem range_tell {n : Nat} {g : Operand} {ps : Array Tmp} {assign body : Code} {Q : Exit → Act → World → Prop} {a : Act} {w : World}
    (hn : 1 ≤ n) {gf : Nat} {lb : Array Value} (hg : a.eval g = .func (.func gf) #[] lb) (eg : ∀ args w, (callFunc gf args).run P w = .ok (.enter gf args) w)
    {enc : Nat → Array Value} {Kp : World → World → Prop} {N : Nat} {w0 : World} (hseq : SeqTell (n - 1) P gf lb enc Kp N w0) (hb0 : Below w0.heap.size w0 w) (hps : ∀ x, (enc x).size = ps.size)
    (hKt : ∀ {A B C : World}, Kp A B → Kp B C → Kp A C) (hKl : ∀ (W : World) (l : Nat) (r r' : Loop), w.heap.size ≤ l → W.heap[l]? = some (.loop r) → Kp W (W.putObj l (.loop r')))
    (I : Nat → World → Prop) (Ix : Code → Nat → World → Prop) (hI : OwnFrom w.heap.size I) (hIx : ∀ c, OwnFrom w.heap.size (Ix c)) (h0 : I 0 w)
    (Ax : Nat → Act → World → Prop) (hAx : ∀ x a', OwnFrom w.heap.size (fun (_ : Unit) W => Ax x a' W))
    (hassign : ∀ (l : Nat) (r : Nat) (W : World) (K : Act → World → Prop), r < N → I r W → (∀ a' W', KeepsFrom w.heap.size W W' → Kp W W' → I r W' → Ax r a' W' → K a' W') →
      assign.wpIn (Fence.wide.inRound l) (n - 1 - 1) P (Exit.then K (fun _ _ _ => False)) { tmps := (ps.zip (enc r)).foldl (fun t (p, v) => t.setIfInBounds p v) a.tmps, defers := [] } W)
    (hbody : ∀ (l : Nat) (r : Nat) (a' : Act) (W : World), w.heap.size ≤ l → (∃ r, W.heap[l]? = some (.loop r)) → r < N → I r W → Ax r a' W → body.wpIn (Fence.wide.inRound l) (n - 1 - 1) P (tellPost w.heap.size Kp I Ix (r + 1) W) a' W)
    (hdone : ∀ (D : Nat) (W : World), w.heap.size ≤ D → I N W → W.heap[D]? = some (.deferred (some [])) → Q .normal { a with defers := { target := .collected D, args := #[] } :: a.defers } W)
    (hstop : ∀ (D : Nat) (c : Code) (r : Nat) (W : World), w.heap.size ≤ D → r ≤ N → Ix c r W → W.heap[D]? = some (.deferred (some [])) → c.wpIn Fence.wide n P Q { a with defers := { target := .collected D, args := #[] } :: a.defers } W) :
    (Code.rangeFunc g ps assign body).wpIn Fence.wide n P Q a w := by
  refine wpIn_rangeFunc fun fn hfn => ?_
  obtain ⟨L, hL⟩ : ∃ L : LoopState → Option Code → Loop, L = fun st pe => { state := st, pending := pe, fn, tmps := a.tmps, params := ps, assign, body, defers := w.heap.size } := ⟨_, rfl⟩
  have book1 := Book.new w (L .ready none)
  have inv1 : I 0 ((w.alloc (.deferred (some []))).alloc (.loop (L .ready none))) := hI.alloc _ (hI.alloc _ h0)
  have below1 : Below w0.heap.size w0 ((w.alloc (.deferred (some []))).alloc (.loop (L .ready none))) :=
    hb0.trans ((((Below.refl _ w).alloc (Nat.le_refl _) _).alloc (by simp) _).mono hb0.size)
  have size1 : ((w.alloc (.deferred (some []))).alloc (.loop (L .ready none))).heap.size = w.heap.size + 1 + 1 := by simp
  have enter1 : (Instr.enterLoop fn a.tmps ps assign body Fence.wide.round).run P w = .ok (w.heap.size + 1, [{ target := .collected w.heap.size, args := #[] }]) ((w.alloc (.deferred (some []))).alloc (.loop (L .ready none))) := by
    rw [hL]; exact run_enterLoop_outer _ _ _ _ _
  generalize (w.alloc (.deferred (some []))).alloc (.loop (L .ready none)) = W1 at *
  -- between two rounds, and behind the one that has left
  obtain ⟨J, hJ⟩ : ∃ J : Nat → World → Prop, J = fun r W => I r W ∧ Book w.heap.size (L .ready none) W := ⟨_, rfl⟩
  obtain ⟨Jx, hJx⟩ : ∃ Jx : Nat → World → Prop, Jx = fun r W => ∃ c, Ix c r W ∧ Book w.heap.size (L .done (some c)) W := ⟨_, rfl⟩
  have own : ∀ {A : World} {row : Option Nat}, (∀ r, row = some r → W1.heap.size ≤ r ∧ ∃ o : Obj, A.heap[r]? = some o ∧ o.isWalk = true) → ∀ r, row = some r → w.heap.size ≤ r ∧ ∃ o : Obj, A.heap[r]? = some o ∧ o.isCells = false := fun hr r e => by
    obtain ⟨h1, o, h2, h3⟩ := hr r e
    exact ⟨by omega, o, h2, Obj.not_cells_of_walk h3⟩
  have abJ : AbidesFrom W1.heap.size J := fun s X Y row hs hg' hr => by
    rw [hJ] at hs ⊢
    exact ⟨hI s X Y row hs.1 hg' (own hr), hs.2.grown hg' (fun r e => by have := (hr r e).1; omega)⟩
  have abJx : AbidesFrom W1.heap.size Jx := fun s X Y row hs hg' hr => by
    rw [hJx] at hs ⊢
    obtain ⟨c, h1, h2⟩ := hs
    exact ⟨c, hIx c s X Y row h1 hg' (own hr), h2.grown hg' (fun r e => by have := (hr r e).1; omega)⟩
  have round : ∀ r W, J r W → r < N → YieldAt Fence.wide (n - 1 - 1) P (w.heap.size + 1) (enc r) W fun e W' =>
      (e = .returned (.bool true) ∧ J (r + 1) W' ∧ Kp W W') ∨ (e = .returned (.bool false) ∧ Jx (r + 1) W') := by
    intro r W hs hlt
    rw [hJ] at hs
    obtain ⟨inv, book⟩ := hs
    have hy := run_yield (P := P) (args := enc r) book.1 (by rw [hL]; exact hps r)
    rw [hL] at hy
    refine ⟨fn, _, assign, body, hy, roundIn_of_wpIn hfn (hassign _ r W _ hlt inv ?_)⟩
    clear hy
    intro a' Wa hka hkpa inva hax
    have booka := book.keeps hka
    refine ⟨_, run_beginRound booka.1 (by rw [hL]), ?_⟩
    have busy := booka.turn { L .ready none with state := .busy }
    have invB := hI.putObj (.loop { L .ready none with state := .busy }) inva (by omega) booka.1 rfl
    have axB := (hAx r a').putObj (s := ()) (.loop { L .ready none with state := .busy }) hax (by omega) booka.1 rfl
    have kpB := hKt hkpa (hKl Wa (w.heap.size + 1) _ { L .ready none with state := .busy } (by omega) booka.1)
    generalize Wa.putObj (w.heap.size + 1) (.loop { L .ready none with state := .busy }) = WB at *
    refine wpIn_mono (hbody _ r a' WB (by omega) ⟨_, busy.1⟩ hlt invB axB) ?_
    have last : ∀ (jump : Option Code) (W3 : World), KeepsFrom w.heap.size WB W3 → (Instr.endRound (w.heap.size + 1) jump).run P W3 = .ok (.bool jump.isNone) (W3.putObj (w.heap.size + 1) (.loop (L (if jump.isNone then .ready else .done) jump))) ∧ Book w.heap.size { L .ready none with state := .busy } W3 := fun jump W3 hk => by
      have b3 := busy.keeps hk
      have e := run_endRound (P := P) jump b3.1
      refine ⟨?_, b3⟩
      rw [hL] at e ⊢
      exact e
    have leave : ∀ (c : Code) (W3 : World), KeepsFrom w.heap.size WB W3 ∧ Ix c (r + 1) W3 → ∃ v W4, (Instr.endRound (w.heap.size + 1) (some c)).run P W3 = .ok v W4 ∧
        ((Ending.returned v = .returned (.bool true) ∧ J (r + 1) W4 ∧ Kp W W4) ∨ (Ending.returned v = .returned (.bool false) ∧ Jx (r + 1) W4)) := fun c W3 ⟨hk, hx⟩ => by
      obtain ⟨e, b3⟩ := last (some c) W3 hk
      exact ⟨_, _, e, .inr ⟨rfl, by rw [hJx]; exact ⟨c, (hIx c).putObj _ hx (by omega) b3.1 rfl, b3.turn _⟩⟩⟩
    intro e a3 W3 hp
    cases e with
    | normal =>
      obtain ⟨hk, hkp, hi3⟩ := hp
      obtain ⟨e, b3⟩ := last none W3 hk
      exact ⟨_, _, e, .inl ⟨rfl, by rw [hJ]; exact ⟨hI.putObj _ hi3 (by omega) b3.1 rfl, b3.turn _⟩, hKt kpB (hKt hkp (hKl W3 _ _ _ (by omega) b3.1))⟩⟩
    | ret => exact leave _ W3 hp
    | exit id => exact leave _ W3 hp
    | goto t => exact leave _ W3 hp
    | panic ch => exact hp.elim
    | outgrown => exact hp.elim
  refine ⟨w.heap.size + 1, [{ target := .collected w.heap.size, args := #[] }], W1, { target := .fn (.func gf) lb, args := #[.func (.yield (w.heap.size + 1)) #[] #[]] }, W1, gf,
    #[.func (.yield (w.heap.size + 1)) #[] #[]] ++ lb, W1, enter1, ?_, ?_, ?_, fun _ => hn, ?_⟩
  · simp only [resolve, hg]
    simp [go_sem]
  · intro f' _; trivial
  · simp [invoke, go_sem, eg]
  · refine (hseq (w.heap.size + 1) J Jx W1 below1 abJ abJx round (by rw [hJ]; exact ⟨inv1, book1⟩)).mono ?_
    rintro e W2 ⟨⟨v, rfl⟩, h | h⟩
    · rw [hJ] at h
      obtain ⟨hi2, b2⟩ := h
      have e := run_endLoop (P := P) b2.1 (by rw [hL]; simp)
      exact ⟨none, _, by rw [hL] at e; exact e, hdone _ _ (Nat.le_refl _) (hI.putObj _ hi2 (by omega) b2.1 rfl) ((World.putObj_heap_other (by omega)).trans b2.2)⟩
    · obtain ⟨r, hr, hs⟩ := h
      rw [hJx] at hs
      obtain ⟨c, hx2, b2⟩ := hs
      have e := run_endLoop (P := P) b2.1 (by rw [hL]; simp)
      exact ⟨some c, _, by rw [hL] at e; exact e, hstop _ c r _ (Nat.le_refl _) hr ((hIx c).putObj _ hx2 (by omega) b2.1 rfl) ((World.putObj_heap_other (by omega)).trans b2.2)⟩
end
end Go.Proofs.YtlckhiflhnlgpaaGreatDoor

/-
  What block.Blocks tells, number by number.
-/
namespace Go.Proofs.YtlckhiflhnlgpaaGreatDoor
open Go.RowKit Go.Shelf

attribute [local go_sem] Oper.semAt_some

set_option maxRecDepth 100000 in
set_option maxHeartbeats 4000000 in
theorem blocks1_t (n : Nat) (l Bs Bp : Nat) (s : ByteArray) (hs : s.size ≤ 9223372036854775000) (p : Nat) (J Jx : Nat → World → Prop) (W : World) (hJ : AbidesFrom W.heap.size J)
    (hY : ∀ r W1, J r W1 → r < blocksOf s → YieldAt Fence.wide (n - 1) Tryz.prog l (encB s p r) W1 fun e W' =>
      (e = .returned (.bool true) ∧ J (r + 1) W' ∧ KeepB Bs Bp W1 W') ∨ (e = .returned (.bool false) ∧ Jx (r + 1) W'))
    (hAs : At W Bs #[.string s] 9) (hAp : At W Bp #[.int .u8 (p : Int)] 5) (h0 : J 0 W) :
    CallsIn Fence.wide n Tryz.prog 77 #[.func (.yield l) #[] #[], .pointer (some ⟨Bs, 0, none⟩), .pointer (some ⟨Bp, 0, none⟩)] W fun e W' => (∃ v, e = .returned v) ∧
      (J (blocksOf s) W' ∨ ∃ r, r ≤ blocksOf s ∧ Jx r W') := by
  refine callsIn_of_wp Tryz.func77 rfl trivial ?_ rfl
  simp only [Tryz.ntmps77, List.size_toArray, List.length_cons, List.length_nil, Nat.reduceAdd, Nat.reduceSub, Array.replicate_succ, Array.replicate_zero, List.push_toArray, List.append_toArray, List.nil_append, List.cons_append]
  gi_wp2
  gi_loopw [4] (fun i wr => ∃ r A : Nat, Hid (A = 64 * r) ∧ r ≤ blocksOf s ∧ i = .int .i64 (A : Int) ∧ J r wr ∧ KeepB Bs Bp W wr) (fun i _ => s.size + 64 - (intOf i).toNat)
  case atStart => exact ⟨0, 0, rfl, Nat.zero_le _, rfl, h0, KeepB.refl _ _ _⟩
  case round =>
    obtain ⟨r, A, hA, hr, rfl, hJr, hB⟩ := hrel
    have cs' := (hB.2.1 _ _ hAs).cell 0
    have cp' := (hB.2.2 _ _ hAp).cell 0
    simp only [List.getElem?_toArray, List.getElem?_cons_zero] at cs' cp'
    by_cases hlt : r < blocksOf s
    · have hlen : A < s.size := by rw [hA.out]; unfold blocksOf at hlt; omega
      have hli : (A : Int) < (s.size : Int) := by omega
      have hov : (A : Int) + 64 ≤ 9223372036854775807 := by omega
      gi_wp2_with fail
      refine ⟨trivial, (fun h => by cases h), ?_⟩
      refine (callsIn_wide.2 (cut_nat s (A : Int) p _ rfl _)).mono ?_
      rintro e w1 ⟨rfl, hb1⟩
      obtain ⟨L, hLt, hLl⟩ := arr64_list (cutF s (A : Int) p)
      have hL1 := arr64_one _ hLt
      have hiL : (Tryz.prog.info? 71).map (·.size) = some L.length := by rw [hLl]; exact info64
      have hiL' : (Tryz.prog.info? 71).map (·.size) = some L.toArray.size := by simpa using hiL
      obtain ⟨hth, W2, hW2, hA2, hB2⟩ := laid64 w1 L hLl
      have hrg := hA2.range rfl
      have hbb : Below wr.heap.size wr W2 := hb1.trans (hB2.mono hb1.size)
      have hJ2 := abides_below hJ hJr hbb
      have hB3 : KeepB Bs Bp W W2 := hB.trans (KeepB.of_below hbb)
      obtain ⟨fn, tmps, assign, body, hy, hR⟩ := hY r W2 hJ2 hlt
      have he : encB s p r = #[.int .i64 (A : Int), .agg L.toArray] := by rw [hLt, encB, Nat.min_eq_left hr, hA.out]
      rw [he] at hy
      rw [← hLt]
      generalize cutN s (A : Int) = nn
      clear hLt hY hJr hJ2
      gi_wp2_with (first | (refine wpListIn_store_want 71 _ _ (w1.heap.size) 0 L.toArray hth hiL' (all_oneCell_toArray hL1) rfl rfl rfl (by rfl) ?_) | (refine wpListIn_load_want 71 _ (w1.heap.size) 0 L _ hrg Tryz.underlying71 hiL rfl rfl rfl (by rfl) ?_))
      refine ⟨(fun h => by cases h), ?_⟩
      refine hR.mono ?_
      rintro e W3 (⟨rfl, hJ3, hk3⟩ | ⟨rfl, hJx3⟩)
      · clear hy hR
        gi_wp2
        go_roundw
        case rel => exact ⟨r + 1, A + 64, by show A + 64 = 64 * (r + 1); have := hA.out; omega, hlt, by simp, hJ3, hB3.trans hk3⟩
        case measure => simp [intOf]; omega
      · clear hy hR
        gi_wp2
        refine bodyPost_ret (results_none rfl _ _ _) rfl ?_
        exact ⟨⟨_, rfl⟩, .inr ⟨_, hlt, hJx3⟩⟩
    · obtain rfl : r = blocksOf s := by omega
      have hge : ¬ (A : Int) < (s.size : Int) := by have := hA.out; unfold blocksOf at this; omega
      gi_wp2
      go_end0
      exact ⟨⟨_, rfl⟩, .inl hJr⟩

theorem blocks_tell (n : Nat) (Bs Bp : Nat) (s : ByteArray) (hs : s.size ≤ 9223372036854775000) (p : Nat) (w : World) (hAs : At w Bs #[.string s] 9) (hAp : At w Bp #[.int .u8 (p : Int)] 5) :
    SeqTell n Tryz.prog 77 #[.pointer (some ⟨Bs, 0, none⟩), .pointer (some ⟨Bp, 0, none⟩)] (encB s p) (KeepB Bs Bp) (blocksOf s) w :=
  fun l J Jx W hW hJ _ hY h0 => blocks1_t n l Bs Bp s hs p J Jx W hJ hY (hAs.keptAll hW) (hAp.keptAll hW) h0
end Go.Proofs.YtlckhiflhnlgpaaGreatDoor

/-
  What quotes.Marks answers.
-/
namespace Go.Proofs.YtlckhiflhnlgpaaGreatDoor
open Go.RowKit Go.Shelf

attribute [local go_sem] Oper.semAt_some

/-- Between two rounds. -/
def QmI (w : World) (s : ByteArray) (K g b : Nat) (r : Nat) (W : World) : Prop :=
  (At W w.heap.size #[.int .i64 0, .slice none 0 0] 81 ∧ At W g (rowCells K (rowOf (escS s) s.size)) 49 ∧ At W b #[.slice (some ⟨g, 0, none⟩) K K] 65 ∧ At W (b + 1) (rowCells K (rowUp (markS s) s.size r)) 49 ∧
    At W (b + 1 + 1) #[.slice (some ⟨b + 1, 0, none⟩) K K] 65 ∧ b + 5 ≤ W.heap.size) ∧ Below w.heap.size w W
/-- The frame in which a round's body begins. -/
def QmA (w : World) (s : ByteArray) (K g b : Nat) (x : Nat) (a' : Act) (W : World) : Prop :=
  ∃ (gx A : Nat) (L : List Value), Hid (A = 64 * x) ∧ Hid (L.toArray = arr64 (cutF s (A : Int) 0)) ∧ Hid (L.length = 64) ∧ b + 5 ≤ gx ∧ At W gx L.toArray 71 ∧ a' = { tmps := #[.string s, undef, .pointer (some ⟨w.heap.size, 0, none⟩), .pointer (some ⟨b, 0, none⟩), .pointer (some ⟨b + 1 + 1, 0, none⟩), .int .i64 (A : Int), .pointer (some ⟨gx, 0, none⟩), .string s, .agg #[.int .i64 (s.size : Int), .slice (some ⟨g, 0, none⟩) K K], .slice (some ⟨g, 0, none⟩) K K, .slice (some ⟨g, 0, none⟩) K K, .int .i64 (K : Int), .slice (some ⟨b + 1, 0, none⟩) K K, .string s, .func (.func 77) #[] #[.pointer (some ⟨b + 1 + 1 + 1, 0, none⟩), .pointer (some ⟨b + 1 + 1 + 1 + 1, 0, none⟩)], .int .i64 (A : Int), .agg L.toArray, undef, undef, undef, undef, undef, undef, undef, undef, undef, undef, undef, undef, undef, undef, undef, undef], defers := [] }
section
variable {w : World} {s : ByteArray} {K g b B : Nat}
theorem qmI_own (hB : w.heap.size ≤ B) : OwnFrom B (QmI w s K g b) := fun t X Z row hs hg hr => by
  obtain ⟨⟨h1, h2, h3, h4, h5, h6⟩, hb⟩ := hs
  have hr' := fun r e => (hr r e).2
  exact ⟨⟨h1.own hg hr', h2.own hg hr', h3.own hg hr', h4.own hg hr', h5.own hg hr', Nat.le_trans h6 hg.size⟩, ownFrom_below (β := List Nat) (Nat.le_refl _) hB [] X Z row hb hg hr⟩
theorem qmA_own (x : Nat) (a' : Act) : OwnFrom B (fun (_ : Unit) W => QmA w s K g b x a' W) := fun _ X Y row hs hg hr => by
  obtain ⟨gx, A, L, h1, h2, h3, h4, h5, h6⟩ := hs
  exact ⟨gx, A, L, h1, h2, h3, h4, h5.own hg (fun r e => (hr r e).2), h6⟩
theorem qmI_kept {r : Nat} {X Z : World} (h : QmI w s K g b r X) (hb : Below X.heap.size X Z) : QmI w s K g b r Z := by
  obtain ⟨⟨h1, h2, h3, h4, h5, h6⟩, hB⟩ := h
  exact ⟨⟨h1.keptAll hb, h2.keptAll hb, h3.keptAll hb, h4.keptAll hb, h5.keptAll hb, Nat.le_trans h6 hb.size⟩, hB.trans (hb.mono hB.size)⟩
end

theorem field_bits1 (x y : Value) (u : World) : (Instr.field 81 (.agg #[x, y]) 1).run Tryz.prog u = .ok y u := by kernel_rfl
set_option maxRecDepth 100000 in
set_option maxHeartbeats 8000000 in
theorem marks_in (s : ByteArray) (hs : s.size ≤ 562949953421312) (w : World) (hT : Tab w) (hw0 : 0 < w.heap.size) :
    CallsIn Fence.wide 3 Tryz.prog 72 #[.string s] w fun e w' => ∃ g, w.heap.size ≤ g ∧ e = .returned (.agg #[.int .i64 (s.size : Int), .slice (some ⟨g, 0, none⟩) (need s.size) (need s.size)]) ∧ At w' g (rowCells (need s.size) (rowOf (markS s) s.size)) 49 ∧ Below w.heap.size w w' := by
  have hnf : ∀ (f : Fn) (a b : Array Value) (w : World), Sem.run Tryz.prog (binOp BinOp.eql 69 (.func f a b) .nilFunc) w = .ok (.bool false) w := fun _ _ _ _ => by rfl
  have hesc := hid (fun (w1 : World) (hb : Below w.heap.size w w1) => escapedS_calls s hs w1 (hT.below hb hw0) (Nat.lt_of_lt_of_le hw0 hb.size))
  obtain ⟨K, hK⟩ : ∃ K, Hid (need s.size = K) := ⟨_, rfl⟩
  have hKb : Hid (blocksOf s = K) := hK
  have hKs : (s.size + 63) / 64 = K := hK.out
  have hK44 : K ≤ 17592186044416 := by omega
  have hKs' := hid hKs
  have hmake : ∀ u : World, (Instr.makeSlice 65 (.int .i64 (K : Int)) (.int .i64 (K : Int))).run Tryz.prog u = .ok (.slice (some ⟨u.heap.size, 0, none⟩) K K) (u.alloc (.cells (rowCells K (fun _ => 0)) 49)) := make_row K hK44
  clear hKs
  rw [hK.out]
  rw [hK.out] at hesc
  clear hT
  refine callsIn_of_wp_marks Tryz.func72 rfl trivial ?_ rfl
  simp only [Tryz.ntmps72, List.size_toArray, List.length_cons, List.length_nil, Nat.reduceAdd, Nat.reduceSub, Array.replicate_succ, Array.replicate_zero, List.push_toArray, List.append_toArray, List.nil_append, List.cons_append]
  refine wpIn_wide.2 ?_
  go_wp2_with fail
  refine Calls.mono (hesc.out _ (by repeat (first | with_reducible exact Below.refl _ _ | with_reducible refine Below.setCell ?_ (by first | (simp; done) | (simp; omega)) _ | with_reducible refine below_drewN ?_ _ | with_reducible refine Below.alloc ?_ (by first | (simp; done) | (simp; omega)) _ | with_reducible refine Below.drew ?_))) ?_
  rintro e w1 ⟨g, hg, rfl, hA, hb⟩
  rw [World.size_alloc] at hg
  have hB1 : Below w.heap.size w w1 := Below.trans (by repeat (first | with_reducible exact Below.refl _ _ | with_reducible refine Below.setCell ?_ (by first | (simp; done) | (simp; omega)) _ | with_reducible refine below_drewN ?_ _ | with_reducible refine Below.alloc ?_ (by first | (simp; done) | (simp; omega)) _ | with_reducible refine Below.drew ?_)) (hb.mono (by simp))
  have hr0 := (At.new w #[.int .i64 0, .slice none 0 0] 81).keptAll hb
  have hgl := hA.lt
  clear hesc hb
  have hfl := fun (x y : Value) (u : World) => field_bits1 x y u
  go_wp2_with fail
  obtain ⟨b, hbe⟩ : ∃ b, w1.heap.size = b := ⟨_, rfl⟩
  obtain ⟨X2, hX2⟩ : ∃ X2, X2 = w1.alloc (.cells #[.slice (some ⟨g, 0, none⟩) K K] 65) := ⟨_, rfl⟩
  obtain ⟨X3, hX3⟩ : ∃ X3, X3 = X2.alloc (.cells (rowCells K fun _ => 0) 49) := ⟨_, rfl⟩
  obtain ⟨X4, hX4⟩ : ∃ X4, X4 = X3.alloc (.cells #[.slice (some ⟨w1.heap.size + 1, 0, none⟩) K K] 65) := ⟨_, rfl⟩
  rw [← hX2, ← hX3, ← hX4]
  rw [hbe] at hX4 hgl ⊢
  have z2 : X2.heap.size = b + 1 := by rw [hX2, World.size_alloc, hbe]
  have z3 : X3.heap.size = b + 1 + 1 := by rw [hX3, World.size_alloc, z2]
  have z4 : X4.heap.size = b + 1 + 1 + 1 := by rw [hX4, World.size_alloc, z3]
  refine (blocks_calls s 0 _).mono ?_
  rintro e W0 ⟨rfl, hW0⟩
  rw [z4]
  have q4 : Below w1.heap.size w1 X4 := by rw [hX4, hX3, hX2]; repeat (first | with_reducible exact Below.refl _ _ | with_reducible refine Below.setCell ?_ (by first | (simp; done) | (simp; omega)) _ | with_reducible refine below_drewN ?_ _ | with_reducible refine Below.alloc ?_ (by first | (simp; done) | (simp; omega)) _ | with_reducible refine Below.drew ?_)
  have q5 : Below X4.heap.size X4 W0 := by rw [hW0]; repeat (first | with_reducible exact Below.refl _ _ | with_reducible refine Below.setCell ?_ (by first | (simp; done) | (simp; omega)) _ | with_reducible refine below_drewN ?_ _ | with_reducible refine Below.alloc ?_ (by first | (simp; done) | (simp; omega)) _ | with_reducible refine Below.drew ?_)
  have a0 : At X4 b #[.slice (some ⟨g, 0, none⟩) K K] 65 := by
    rw [hX4, hX3, hX2, ← hbe]; exact ((At.new w1 _ _).alloc _).alloc _
  have a1 : At X4 (b + 1) (rowCells K fun _ => 0) 49 := by
    rw [hX4, hX3, ← z2]; exact (At.new X2 _ _).alloc _
  have a2 : At X4 (b + 1 + 1) #[.slice (some ⟨b + 1, 0, none⟩) K K] 65 := by
    rw [hX4, ← z3]; exact At.new X3 _ _
  have a5 : At W0 (b + 1 + 1 + 1) #[.string s] 9 := by
    rw [hW0, ← z4]; exact (At.new X4 _ _).alloc _
  have a6 : At W0 (b + 1 + 1 + 1 + 1) #[.int .u8 ((0 : Nat) : Int)] 5 := by
    have h := At.new (X4.alloc (.cells #[.string s] 9)) #[.int .u8 ((0 : Nat) : Int)] 5
    rw [hW0, ← z4]; simpa using h
  have z0 : W0.heap.size = b + 5 := by rw [hW0]; simp only [World.size_alloc, z4]
  have hB0 : Below w.heap.size w W0 := (hB1.trans (q4.mono hB1.size)).trans (q5.mono (by have := hB1.size; omega))
  have hbw : w.heap.size ≤ b := by rw [← hbe]; exact hB1.size
  have hI0 : QmI w s K g b 0 W0 := by
    refine ⟨⟨(hr0.keptAll q4).keptAll q5, (hA.keptAll q4).keptAll q5, a0.keptAll q5, ?_, a2.keptAll q5, by omega⟩, hB0⟩
    rw [show rowCells K (rowUp (markS s) s.size 0) = rowCells K (fun _ => 0) from rowCells_congr (fun j _ => by unfold rowUp; rw [if_neg (by omega)])]
    exact a1.keptAll q5
  clear a0 a1 a2 z2 z3 z4 q4 q5 hW0 hX2 hX3 hX4 hmake hA hr0 hbe hB1
  clear X2 X3 X4
  go_wp2_with fail
  refine (wpIn_wide (n := 3)).1 ?_
  refine range_tell (n := 3) (by decide) (gf := 77) (lb := #[.pointer (some ⟨b + 1 + 1 + 1, 0, none⟩), .pointer (some ⟨b + 1 + 1 + 1 + 1, 0, none⟩)]) rfl (enters_of Tryz.func77 (by kernel_rfl) rfl)
    (blocks_tell (3 - 1) (b + 1 + 1 + 1) (b + 1 + 1 + 1 + 1) s (by omega) 0 W0 a5 a6) (Below.refl _ _) (fun _ => rfl) KeepB.trans (fun W l r r' h1 h2 => keepB_b (w := W0) W l _ _ h1 h2 rfl rfl)
    (QmI w s K g b) (fun _ _ _ => False) (qmI_own hB0.size) (fun _ _ _ _ _ h _ _ => h) hI0 (QmA w s K g b) (fun x a' => qmA_own x a') ?assign ?body ?done ?stop
  case assign =>
    intro l x W KK hx hI hKK
    obtain ⟨A, hA⟩ : ∃ A : Nat, Hid (A = 64 * x) := ⟨_, rfl⟩
    obtain ⟨L, hLt, hLl⟩ := arr64_list (cutF s (A : Int) 0)
    have hL1 := arr64_one _ hLt
    have hiL' : (Tryz.prog.info? 71).map (·.size) = some L.toArray.size := by rw [List.size_toArray, hLl]; exact info64
    have he : encB s 0 x = #[.int .i64 (A : Int), .agg L.toArray] := by rw [hLt, encB, show min x (blocksOf s) = x by omega, hA.out]
    rw [he]
    obtain ⟨hth, W2, hW2, hA2, hB2⟩ := laid64 W L hLl
    have hK2 := fun a' => hKK a' W2 ((keeps_below hB2).from _) (KeepB.of_below hB2) (qmI_kept hI hB2)
    have hgt : b + 5 ≤ W.heap.size := hI.1.2.2.2.2.2
    have hLH : Hid (L.toArray = arr64 (cutF s (A : Int) 0)) := hLt
    clear hKK hI hLt he
    gi_wp2_with (first | (refine wpListIn_store_want 71 _ _ (W.heap.size) 0 L.toArray hth hiL' (all_oneCell_toArray hL1) rfl rfl rfl (by rfl) ?_))
    exact ⟨W.heap.size, A, L, hA, hLH, hLl, hgt, hA2, rfl⟩
  case body =>
    rintro l j a' W hll ⟨rec, hrec⟩ hlt ⟨⟨h0, h1, h2, h3, h4, hzW⟩, hB⟩ ⟨gx, A, L, hA, hL, hLl, hgx, hAt, rfl⟩
    rw [hKb.out] at hlt
    have hAlt : A < s.size := by have := hA.out; have := hKs'.out; omega
    have hL1 := arr64_one _ hL.out
    have hiL : (Tryz.prog.info? 71).map (·.size) = some L.length := by rw [hLl.out]; exact info64
    have hAi : (A : Int) < (s.size : Int) := by omega
    have hidx : (A : Int) / 64 = (j : Int) := by have := hA.out; omega
    have hjKi : (j : Int) < (K : Int) := by omega
    have hwJ : IntKind.i64.wrap (j : Int) = (j : Int) := by rw [IntKind.wrap_i64]; omega
    have hjc : (0 ≤ (j : Int) ∧ (j : Int) < (K : Int)) = True := by simp; omega
    obtain ⟨M, hM⟩ : ∃ M, Hid (quoW s j = M) := ⟨_, rfl⟩
    have hMl : M < 18446744073709551616 := hM.out ▸ quoW_lt s j
    have hEq : Hid (∀ w, Calls Tryz.prog 91 #[.agg L.toArray, .int .u8 34] w fun e w' => e = .returned (.int .u64 (M : Int)) ∧ Below w.heap.size w w') := fun w => by
      rw [hL.out]
      exact equal_nat (cutF s (A : Int) 0) (fun i => cutF_lt s _ 0 (by decide) i) 34 (by decide) M (by show _ = _; rw [← hM.out, quoW, hA.out]) w
    obtain ⟨E, hE⟩ : ∃ E, Hid (rowOf (escS s) s.size j = E) := ⟨_, rfl⟩
    have hEl : E < 18446744073709551616 := hE.out ▸ rowOf_lt _ _ _
    obtain ⟨V, hV⟩ : ∃ V, Hid (M &&& (18446744073709551615 - E) = V) := ⟨_, rfl⟩
    have hand : bits BinOp.andNot IntKind.u64 (M : Int) (E : Int) = (V : Int) := by rw [u64_andNot_nat M E hMl hEl, hV.out]
    have hVr : Hid (V = rowOf (markS s) s.size j) := by show _ = _; rw [← hV.out, ← hM.out, ← hE.out]; exact quoW_row s j
    have ce := h1.cell j
    rw [rowCells_get _ hlt, hE.out] at ce
    have cj := h3.cell j
    have fj := h3.frozen j
    rw [rowCells_get _ hlt] at cj
    have s3 := h2.cell 0
    have s4 := h4.cell 0
    simp only [List.getElem?_toArray, List.getElem?_cons_zero] at s3 s4
    have hrg := hAt.range (L := L) rfl
    have hkeep : Hid (∀ W', Below W.heap.size W W' → W'.cell? ⟨b, 0, none⟩ = some (.slice (some ⟨g, 0, none⟩) K K) ∧ W'.cell? ⟨b + 1 + 1, 0, none⟩ = some (.slice (some ⟨b + 1, 0, none⟩) K K) ∧ W'.cell? ⟨g, j, none⟩ = some (.int .u64 (E : Int)) ∧ W'.rangeAt gx 0 L) := fun W' hb =>
      ⟨(h2.keptAll hb).cell 0, (h4.keptAll hb).cell 0, by have := (h1.keptAll hb).cell j; rw [rowCells_get _ hlt, hE.out] at this; exact this, (hAt.keptAll hb).range rfl⟩
    have hS0 := hkeep.out W.drew (Below.refl _ _).drew
    have t0 := hid h0
    have t1 := hid h1
    have t2 := hid h2
    have t3 := hid h3
    have t4 := hid h4
    have hfin := hid (fun (W' : World) (hb : Below W.heap.size W W') => show KeepsFrom W0.heap.size W (W'.setCell ⟨b + 1, j, none⟩ (.int .u64 (V : Int))) ∧ KeepB (b + 1 + 1 + 1) (b + 1 + 1 + 1 + 1) W (W'.setCell ⟨b + 1, j, none⟩ (.int .u64 (V : Int))) ∧ QmI w s K g b (j + 1) (W'.setCell ⟨b + 1, j, none⟩ (.int .u64 (V : Int))) by
      have hKs2 := KeepsOthers.setCell W' ⟨b + 1, j, none⟩ (.int .u64 (V : Int))
      refine ⟨((keeps_below hb).trans hKs2).from _, (KeepB.of_below hb).trans ⟨hKs2.1, fun _ _ q => q.other (p := ⟨b + 1, j, none⟩) (by show b + 1 + 1 + 1 ≠ b + 1; omega) _, fun _ _ q => q.other (p := ⟨b + 1, j, none⟩) (by show b + 1 + 1 + 1 + 1 ≠ b + 1; omega) _⟩, ⟨?_, ?_, ?_, ?_, ?_, ?_⟩, ?_⟩
      · exact (t0.out.keptAll hb).other (p := ⟨b + 1, j, none⟩) (by show w.heap.size ≠ b + 1; omega) _
      · exact (t1.out.keptAll hb).other (p := ⟨b + 1, j, none⟩) (by show g ≠ b + 1; omega) _
      · exact (t2.out.keptAll hb).other (p := ⟨b + 1, j, none⟩) (by show b ≠ b + 1; omega) _
      · have h := (t3.out.keptAll hb).set j (.int .u64 (V : Int))
        rw [rowCells_set] at h
        rw [show rowCells K (rowUp (markS s) s.size (j + 1)) = rowCells K (fun i => if i = j then V else rowUp (markS s) s.size j i) from rowCells_congr (fun i _ => by rw [hVr.out]; exact (rowUp_set _ _ _ _).symm)]
        exact h
      · exact (t4.out.keptAll hb).other (p := ⟨b + 1, j, none⟩) (by show b + 1 + 1 ≠ b + 1; omega) _
      · exact Nat.le_trans hzW (Nat.le_trans hb.size hKs2.1)
      · exact (hB.trans (hb.mono hB.size)).setCell (p := ⟨b + 1, j, none⟩) (by show w.heap.size ≤ b + 1; omega) _)
    have hcj := hid (fun (W' : World) (hb : Below W.heap.size W W') => show W'.cell? ⟨b + 1, j, none⟩ = some (.int .u64 ((rowUp (markS s) s.size j j : Nat) : Int)) ∧ W'.frozen? ⟨b + 1, j, none⟩ = false by
      refine ⟨?_, (t3.out.keptAll hb).frozen j⟩
      have := (t3.out.keptAll hb).cell j
      rw [rowCells_get _ hlt] at this
      exact this)
    have hkeep2 : Hid (∀ W' (v : Value), Below W.heap.size W W' → (W'.setCell ⟨b + 1, j, none⟩ v).cell? ⟨b, 0, none⟩ = some (.slice (some ⟨g, 0, none⟩) K K) ∧ (W'.setCell ⟨b + 1, j, none⟩ v).cell? ⟨b + 1 + 1, 0, none⟩ = some (.slice (some ⟨b + 1, 0, none⟩) K K) ∧ (W'.setCell ⟨b + 1, j, none⟩ v).cell? ⟨g, j, none⟩ = some (.int .u64 (E : Int)) ∧ (W'.setCell ⟨b + 1, j, none⟩ v).rangeAt gx 0 L) := fun W' v hb =>
      ⟨((h2.keptAll hb).other (p := ⟨b + 1, j, none⟩) (by show b ≠ b + 1; omega) v).cell 0, ((h4.keptAll hb).other (p := ⟨b + 1, j, none⟩) (by show b + 1 + 1 ≠ b + 1; omega) v).cell 0, by have := ((h1.keptAll hb).other (p := ⟨b + 1, j, none⟩) (by show g ≠ b + 1; omega) v).cell j; rw [rowCells_get _ hlt, hE.out] at this; exact this, ((hAt.keptAll hb).other (p := ⟨b + 1, j, none⟩) (by show gx ≠ b + 1; omega) v).range rfl⟩
    clear h0 h1 h2 h3 h4 hA hL hLl hAt hM hE hV hVr ce cj fj s3 s4 hrg t0 t1 t2 t3 t4 hB hzW hAlt
    gi_wp2_with fail
    refine wpIn_region_round (S := fun W' => W'.cell? ⟨b, 0, none⟩ = some (.slice (some ⟨g, 0, none⟩) K K) ∧ W'.cell? ⟨b + 1 + 1, 0, none⟩ = some (.slice (some ⟨b + 1, 0, none⟩) K K) ∧ W'.cell? ⟨g, j, none⟩ = some (.int .u64 (E : Int)) ∧ W'.rangeAt gx 0 L) (by kernel_rfl) (by kernel_rfl) (fun _ _ h => h) hS0 (fun hHeld => ?_)
    (refine' wpAnyH_take (i := 0) rfl (by kernel_rfl) (by kernel_rfl) (by kernel_rfl) (fun _ _ _ h => h) (Or.inl ⟨by rfl, ?_⟩) (by assumption) ?_; rotate_left; (· (intro wq hq; (try dsimp only at hq); go_simp; first | done | with_reducible rfl)); simp only [Act.put, List.getElem_toArray, List.getElem_cons_zero, List.setIfInBounds_toArray, List.set_cons_zero, List.set_cons_succ])
    (refine' wpAnyH_take (i := 1) rfl (by kernel_rfl) (by kernel_rfl) (by kernel_rfl) (fun _ _ _ h => h) (Or.inl ⟨by rfl, ?_⟩) (by assumption) ?_; rotate_left; (· (intro wq hq; (try dsimp only at hq); go_simp; first | done | with_reducible rfl)); simp only [Act.put, List.getElem_toArray, List.getElem_cons_zero, List.getElem_cons_succ, List.setIfInBounds_toArray, List.set_cons_zero, List.set_cons_succ])
    (refine' wpAnyH_take (i := 2) rfl (by kernel_rfl) (by kernel_rfl) (by kernel_rfl) (fun _ _ _ h => h) (Or.inl ⟨by rfl, ?_⟩) (by assumption) ?_; rotate_left; (· (intro wq hq; (try dsimp only at hq); go_simp; first | done | with_reducible rfl)); simp only [Act.put, List.getElem_toArray, List.getElem_cons_zero, List.getElem_cons_succ, List.setIfInBounds_toArray, List.set_cons_zero, List.set_cons_succ])
    (refine wpAnyH_take (i := 3) (v := .agg L.toArray) rfl (by kernel_rfl) (by kernel_rfl) (by kernel_rfl) (fun _ _ _ h => h) (yieldsIf_load_mid (by rfl) 71 _ rfl (gx) 0 rfl L _ (fun wq hq => hq.2.2.2) Tryz.underlying71 rfl hiL) (by assumption) ?_; simp only [Act.put, List.getElem_toArray, List.getElem_cons_zero, List.getElem_cons_succ, List.setIfInBounds_toArray, List.set_cons_zero, List.set_cons_succ])
    (refine' wpAnyH_take (i := 5) rfl (by kernel_rfl) (by kernel_rfl) (by kernel_rfl) (fun _ _ _ h => h) (Or.inl ⟨by rfl, ?_⟩) (by assumption) ?_; rotate_left; (· (intro wq hq; (try dsimp only at hq); go_simp; first | done | with_reducible rfl)); simp only [Act.put, List.getElem_toArray, List.getElem_cons_zero, List.getElem_cons_succ, List.setIfInBounds_toArray, List.set_cons_zero, List.set_cons_succ])
    (refine' wpAnyH_take (i := 6) rfl (by kernel_rfl) (by kernel_rfl) (by kernel_rfl) (fun _ _ _ h => h) (Or.inl ⟨by rfl, ?_⟩) (by assumption) ?_; rotate_left; (· (intro wq hq; (try dsimp only at hq); go_simp; first | done | with_reducible rfl)); simp only [Act.put, List.getElem_toArray, List.getElem_cons_zero, List.getElem_cons_succ, List.setIfInBounds_toArray, List.set_cons_zero, List.set_cons_succ])
    (refine' wpAnyH_take (i := 7) rfl (by kernel_rfl) (by kernel_rfl) (by kernel_rfl) (fun _ _ _ h => h) (Or.inl ⟨by rfl, ?_⟩) (by assumption) ?_; rotate_left; (· (intro wq hq; (try dsimp only at hq); go_simp; first | done | with_reducible rfl)); simp only [Act.put, List.getElem_toArray, List.getElem_cons_zero, List.getElem_cons_succ, List.setIfInBounds_toArray, List.set_cons_zero, List.set_cons_succ])
    (refine' wpAnyH_take (i := 8) rfl (by kernel_rfl) (by kernel_rfl) (by kernel_rfl) (fun _ _ _ h => h) (Or.inl ⟨by rfl, ?_⟩) (by assumption) ?_; rotate_left; (· (intro wq hq; (try dsimp only at hq); go_simp; first | done | with_reducible rfl)); simp only [Act.put, List.getElem_toArray, List.getElem_cons_zero, List.getElem_cons_succ, List.setIfInBounds_toArray, List.set_cons_zero, List.set_cons_succ])
    (refine' wpAnyH_take (i := 9) rfl (by kernel_rfl) (by kernel_rfl) (by kernel_rfl) (fun _ _ _ h => h) (Or.inl ⟨by rfl, ?_⟩) (by assumption) ?_; rotate_left; (· (intro wq hq; (try dsimp only at hq); go_simp; first | done | with_reducible rfl)); simp only [Act.put, List.getElem_toArray, List.getElem_cons_zero, List.getElem_cons_succ, List.setIfInBounds_toArray, List.set_cons_zero, List.set_cons_succ])
    refine wpAnyH_ready (rs := [4]) (by kernel_rfl) (by simp) ?_
    refine AllReadyH.cons rfl (fun K hK => ?_) ?_
    · rw [if_pos (by rfl)]
      go_simp
      refine (hEq.out _).mono ?_
      rintro e wq ⟨rfl, hbq⟩
      have hb1 : Below W.heap.size W wq := (Below.refl _ W).drew.trans hbq
      refine hK.out _ _ (hkeep.out _ hb1) (fun hH => ?_)
      clear hK K
      (refine' wpAnyH_take (i := 10) rfl (by kernel_rfl) (by kernel_rfl) (by kernel_rfl) (fun _ _ _ h => h) (Or.inl ⟨by rfl, ?_⟩) (by assumption) ?_; rotate_left; (· (intro wq hq; (try dsimp only at hq); go_simp; first | done | with_reducible rfl)); simp only [Act.put, List.getElem_toArray, List.getElem_cons_zero, List.getElem_cons_succ, List.setIfInBounds_toArray, List.set_cons_zero, List.set_cons_succ])
      (refine' wpAnyH_take (i := 11) rfl (by kernel_rfl) (by kernel_rfl) (by kernel_rfl) (fun _ _ _ h => h) (Or.inl ⟨by rfl, ?_⟩) (by assumption) ?_; rotate_left; (· (intro wq hq; (try dsimp only at hq); go_simp; first | done | with_reducible rfl)); simp only [Act.put, List.getElem_toArray, List.getElem_cons_zero, List.getElem_cons_succ, List.setIfInBounds_toArray, List.set_cons_zero, List.set_cons_succ])
      refine wpAnyH_ready (rs := [12]) (by kernel_rfl) (by simp) ?_
      refine AllReadyH.cons rfl (fun K hK => ?_) ?_
      · obtain ⟨cj, fj⟩ := hcj.out _ hb1
        go_simp
        refine hK.out _ _ (hkeep2.out _ _ hb1) (fun hH2 => ?_)
        clear hK K
        refine wpAnyH_done (by kernel_rfl) ?_ _
        change Exit.inBlock 1 _ Exit.normal _ _
        exact hfin.out _ hb1
      · exact AllReadyH.nil
    · exact AllReadyH.nil
  case done =>
    rintro D W hD ⟨⟨h0, -, -, h3, h4, hzW⟩, hB⟩ hKD
    rw [hKb.out] at h3
    rw [show rowCells K (rowUp (markS s) s.size K) = rowCells K (rowOf (markS s) s.size) from rowCells_congr fun i hi => by unfold rowUp; rw [if_pos hi]] at h3
    have k4 := h4.cell 0
    obtain ⟨d0, d1, f0, f1⟩ := h0.facts
    simp only [List.getElem?_toArray, List.getElem?_cons_zero] at k4
    rename_i Kz hKz
    clear h4 hI0 hnf
    refine hKz _ _ ?_
    go_wp2
    obtain ⟨X, hX⟩ : ∃ X, (W.setCell ⟨w.heap.size, 0, none⟩ (.int .i64 (s.size : Int))).setCell ⟨w.heap.size, 1, none⟩ (.slice (some ⟨b + 1, 0, none⟩) K K) = X := ⟨_, rfl⟩
    have x1 : At X w.heap.size #[.int .i64 (s.size : Int), .slice (some ⟨b + 1, 0, none⟩) K K] 81 := by rw [← hX]; exact h0.two
    have x2 : At X (b + 1) (rowCells K (rowOf (markS s) s.size)) 49 := by
      rw [← hX]
      exact (h3.other (p := ⟨w.heap.size, 0, none⟩) (by show b + 1 ≠ w.heap.size; omega) _).other (p := ⟨w.heap.size, 1, none⟩) (by show b + 1 ≠ w.heap.size; omega) _
    have x3 : X.heap[D]? = some (.deferred (some [])) := by
      rw [← hX]
      exact (Below.heap_setCell _ _ _ D (by show D ≠ w.heap.size; omega)).trans ((Below.heap_setCell _ _ _ D (by show D ≠ w.heap.size; omega)).trans hKD)
    have x4 : Below w.heap.size w X := by
      rw [← hX]
      exact (hB.setCell (p := ⟨w.heap.size, 0, none⟩) (by show w.heap.size ≤ w.heap.size; omega) _).setCell (p := ⟨w.heap.size, 1, none⟩) (by show w.heap.size ≤ w.heap.size; omega) _
    rw [hX]
    refine ⟨by simp, .inl ⟨_, _, rfl, run_takeDeferred (w := X) x3, ?_⟩⟩
    have y1 := x1.own (grownBy_putObj' X D (.deferred none)) (fun r e => by cases e; exact ⟨_, x3, rfl⟩)
    have y2 := x2.own (grownBy_putObj' X D (.deferred none)) (fun r e => by cases e; exact ⟨_, x3, rfl⟩)
    have y4 : Below w.heap.size w (X.putObj D (.deferred none)) := x4.trans (belowK_b (w := w) (Nat.le_refl _) X D _ _ (by omega) x3 rfl rfl)
    exact ⟨_, results_cell_row (P := Tryz.prog) (p := 2) rfl _ _ w.heap.size 81 #[.int .i64 (s.size : Int), .slice (some ⟨b + 1, 0, none⟩) K K] (0, 0) _ rfl y1 Tryz.underlying81 rfl sizeBits, ⟨_, by omega, rfl, y2, y4⟩⟩
  case stop =>
    rintro D c pre W _ _ h _
    exact h.elim
theorem marksQ_calls (s : ByteArray) (hs : s.size ≤ 562949953421312) (w : World) (hT : Tab w) (hw0 : 0 < w.heap.size) :
    Calls Tryz.prog 72 #[.string s] w fun e w' => ∃ g, w.heap.size ≤ g ∧ e = .returned (.agg #[.int .i64 (s.size : Int), .slice (some ⟨g, 0, none⟩) (need s.size) (need s.size)]) ∧ At w' g (rowCells (need s.size) (rowOf (markS s) s.size)) 49 ∧ Below w.heap.size w w' := callsIn_wide.1 (marks_in s hs w hT hw0)
end Go.Proofs.YtlckhiflhnlgpaaGreatDoor

/-
  What quotes.Inside and quotes.Open answer.
-/
namespace Go.Proofs.YtlckhiflhnlgpaaGreatDoor
open Go.RowKit Go.Shelf

end Go.Proofs.YtlckhiflhnlgpaaGreatDoor
