/-
  What block.Of answers.
-/
import Derived.Test.YtjeecpgcokjjjaaBlockOnly
import Derived.Test.YtjeecpgcokjjjaaAt
namespace Go.Proofs.Ytjeecpgcokjjjaa
open Go.RowKit

/-- The class of the first n of some bytes. -/
def ofTo (f : Nat → Nat) : Nat → Nat → Nat
  | 0, _ => 0
  | n + 1, j => ofTo f n j ||| onlyC (f n) j
theorem ofTo_zero (f : Nat → Nat) : ofTo f 0 = fun _ => 0 := rfl
theorem ofTo_succ (f : Nat → Nat) (n : Nat) : ofTo f (n + 1) = fun j => ofTo f n j ||| onlyC (f n) j := rfl
theorem cls_of (f : Nat → Nat) (n : Nat) : Cls (ofTo f n) := by
  induction n with
  | zero => exact cls_zero
  | succ n ih => rw [ofTo_succ]; exact cls_join ih (cls_only _)
theorem with_eq (c : Nat → Nat) (x : Nat) : withC c x = fun j => c j ||| onlyC x j := by
  funext j
  unfold withC onlyC
  split <;> simp
/-- Byte i of a text. -/
def byteAt (s : ByteArray) (i : Nat) : Nat := (s.data[i]?.getD 0).toNat
theorem byteAt_eq (s : ByteArray) (i : Nat) (h : i < s.size) : (s[i]'h).toNat = byteAt s i := by
  have h2 : i < s.data.size := h
  unfold byteAt
  rw [Array.getElem?_eq_getElem h2]
  rfl
theorem byteAt_lt (s : ByteArray) (i : Nat) : byteAt s i < 256 := UInt8.toNat_lt _

theorem At.four {w : World} {b : Nat} {c : Nat → Nat} {t : TypeId} (h : At w b (clsArr c) t) : (w.cell? ⟨b, 0, none⟩ = some (.int .u64 ((c 0 : Nat) : Int)) ∧ w.cell? ⟨b, 1, none⟩ = some (.int .u64 ((c 1 : Nat) : Int)) ∧ w.cell? ⟨b, 2, none⟩ = some (.int .u64 ((c 2 : Nat) : Int)) ∧ w.cell? ⟨b, 3, none⟩ = some (.int .u64 ((c 3 : Nat) : Int))) ∧ (w.frozen? ⟨b, 0, none⟩ = false ∧ w.frozen? ⟨b, 1, none⟩ = false ∧ w.frozen? ⟨b, 2, none⟩ = false ∧ w.frozen? ⟨b, 3, none⟩ = false) :=
  ⟨⟨(h.cell 0).trans (clsArr_at c 0 (by decide)), (h.cell 1).trans (clsArr_at c 1 (by decide)), (h.cell 2).trans (clsArr_at c 2 (by decide)), (h.cell 3).trans (clsArr_at c 3 (by decide))⟩, h.frozen 0, h.frozen 1, h.frozen 2, h.frozen 3⟩
/-- A class laid over a class. -/
theorem At.put {w : World} {b : Nat} {c : Nat → Nat} {t : TypeId} (h : At w b (clsArr c) t) (d : Nat → Nat) :
    At ((((w.setCell ⟨b, 0, none⟩ (.int .u64 ((d 0 : Nat) : Int))).setCell ⟨b, 1, none⟩ (.int .u64 ((d 1 : Nat) : Int))).setCell ⟨b, 2, none⟩ (.int .u64 ((d 2 : Nat) : Int))).setCell ⟨b, 3, none⟩ (.int .u64 ((d 3 : Nat) : Int))) b (clsArr d) t := by
  have h4 := (((h.set 0 (.int .u64 ((d 0 : Nat) : Int))).set 1 (.int .u64 ((d 1 : Nat) : Int))).set 2 (.int .u64 ((d 2 : Nat) : Int))).set 3 (.int .u64 ((d 3 : Nat) : Int))
  have e : ((((clsArr c).setIfInBounds 0 (.int .u64 ((d 0 : Nat) : Int))).setIfInBounds 1 (.int .u64 ((d 1 : Nat) : Int))).setIfInBounds 2 (.int .u64 ((d 2 : Nat) : Int))).setIfInBounds 3 (.int .u64 ((d 3 : Nat) : Int)) = clsArr d := by
    rw [clsArr_lit c, clsArr_lit d]; rfl
  rwa [e] at h4

set_option maxRecDepth 100000 in
set_option maxHeartbeats 1000000 in
theorem of_calls (s : ByteArray) (hs : s.size ≤ 9223372036854775807) (w : World) :
    Calls Try.prog 9 #[.string s] w fun e w' => e = .returned (.agg (clsArr (ofTo (byteAt s) s.size))) ∧ Below w.heap.size w w' := by
  go_enter Try.func9, Try.ntmps9
  go_wp2
  go_loopw [7] (fun i wr => ∃ k : Nat, k ≤ s.size ∧ i = .int .i64 k ∧ At wr (w.heap.size + 1) (clsArr (ofTo (byteAt s) k)) 25 ∧ At wr w.heap.size (clsArr fun _ => 0) 25 ∧ Below w.heap.size w wr) (fun i _ => s.size - (intOf i).toNat)
  case atStart =>
    refine ⟨0, by omega, rfl, ?_, ?_, ?_⟩
    · have h := At.new (w.alloc (.cells (clsArr fun _ => 0) 25)) (clsArr fun _ => 0) 25
      simpa [clsArr_zero, ofTo_zero] using h
    · have h := (At.new w (clsArr fun _ => 0) 25).alloc (.cells (clsArr fun _ => 0) 25)
      simpa [clsArr_zero] using h
    · repeat (first | with_reducible exact Below.refl _ _ | with_reducible refine Below.setCell ?_ (by first | (simp; done) | (simp; omega)) _ | with_reducible refine below_drewN ?_ _ | with_reducible refine Below.alloc ?_ (by first | (simp; done) | (simp; omega)) _ | with_reducible refine Below.drew ?_)
  case round =>
    obtain ⟨k, hk, rfl, hA, hR, hBel⟩ := hrel
    by_cases hlt : k < s.size
    · have hk4 : (k : Int) < s.size := by omega
      have hb1 := byteAt_lt s k
      have hbt := byteAt_eq s k hlt
      have hcl := cls_of (byteAt s) k
      have hst := ofTo_succ (byteAt s) k
      generalize byteAt s k = x at *
      generalize ofTo (byteAt s) k = c at *
      obtain ⟨hC, hZ⟩ := hA.four
      go_wp2
      go_region_with (first
        | (go_at_call 28; refine (only_calls x hb1 _).mono ?_; rintro e w2 ⟨rfl, hb2⟩; have hA2 := hA.drew.keptAll hb2; obtain ⟨hC2, hZ2⟩ := hA2.four)
        | (go_at_call 13; (try rw [← clsArr_lit c]); refine (join_calls c (onlyC x) hcl (cls_only _) _).mono ?_; rintro e w3 ⟨rfl, hb3⟩; have hA3 := hA2.keptAll hb3; obtain ⟨hC3, hZ3⟩ := hA3.four; rw [clsArr_lit (fun j => c j ||| onlyC x j)]))
      all_goals
        have hR3 := (hR.drew.keptAll hb2).keptAll hb3
        have hB3 := (hBel.drew.trans (hb2.mono hBel.drew.size)).trans (hb3.mono (Nat.le_trans hBel.drew.size hb2.size))
        go_wp2
        go_roundw
        case rel =>
          refine ⟨k + 1, by omega, by go_num, ?_, ?_, ?_⟩
          · rw [hst]; exact hA3.put (fun j => c j ||| onlyC x j)
          · exact (((hR3.other (by simp) _).other (by simp) _).other (by simp) _).other (by simp) _
          · exact (((hB3.setCell (by simp) _).setCell (by simp) _).setCell (by simp) _).setCell (by simp) _
        case measure => simp [intOf]; omega
    · have hk' : k = s.size := by omega
      subst hk'
      generalize hcd : ofTo (byteAt s) s.size = c at hA
      obtain ⟨hC, hZ⟩ := hA.four
      obtain ⟨hD, hY⟩ := hR.four
      go_wp2
      have hR1 := hR.put c
      obtain ⟨hC1, hZ1⟩ := hR1.four
      refine bodyPost_ret (v := .agg (clsArr c)) (by rw [clsArr_lit c]; simp [results, Try.results9, go_sem, hC1]) rfl ⟨by rw [hcd], ?_⟩
      exact (((hBel.setCell (by simp) _).setCell (by simp) _).setCell (by simp) _).setCell (by simp) _
end Go.Proofs.Ytjeecpgcokjjjaa
