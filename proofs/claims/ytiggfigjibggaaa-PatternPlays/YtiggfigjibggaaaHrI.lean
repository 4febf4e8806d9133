/-
  A pattern of the program and one of the document side by side; begun.
-/
import Derived.Test.YtiggfigjibggaaaHrH
import Derived.OwnWalk
namespace Go.Proofs.Ytiggfigjibggaaa
open Go.RowKit Go.Shelf Go.Maps

/-- A pattern and the document's, with the same entries, in blocks of their own. -/
def Both (w : World) (pb qb : Nat) (S : Nat → Prop) (room came : Nat) (L : List Ent) : Prop := ∃ Sp Sq : Nat → Prop, PatM w pb Sp room came L ∧ RfM w qb Sq room L ∧ (∀ q, Sp q → ¬ Sq q) ∧ (∀ q, Sp q → S q) ∧ (∀ q, Sq q → S q) ∧ ∀ q, S q → q < w.heap.size
theorem Both.kept {w w' : World} {pb qb room came : Nat} {S : Nat → Prop} {L : List Ent} (h : Both w pb qb S room came L) (hs : w.heap.size ≤ w'.heap.size) (hk : ∀ q, S q → q < w.heap.size → w'.heap[q]? = w.heap[q]?) : Both w' pb qb S room came L := by
  obtain ⟨Sp, Sq, h1, h2, h3, h4, h5, h6⟩ := h
  exact ⟨Sp, Sq, h1.kept (fun q hq hl => hk q (h4 q hq) hl), h2.kept (fun q hq hl => hk q (h5 q hq) hl), h3, h4, h5, fun q hq => Nat.lt_of_lt_of_le (h6 q hq) hs⟩
theorem Both.keptB {w w' : World} {pb qb room came : Nat} {S : Nat → Prop} {L : List Ent} (h : Both w pb qb S room came L) (hb : Below w.heap.size w w') : Both w' pb qb S room came L := h.kept hb.size (fun q _ hl => hb.block q hl)
theorem Both.wide {w : World} {pb qb room came : Nat} {S S' : Nat → Prop} {L : List Ent} (h : Both w pb qb S room came L) (hS : ∀ q, S q → S' q) (hb : ∀ q, S' q → q < w.heap.size) : Both w pb qb S' room came L := by
  obtain ⟨Sp, Sq, h1, h2, h3, h4, h5, h6⟩ := h
  exact ⟨Sp, Sq, h1, h2, h3, fun q hq => hS q (h4 q hq), fun q hq => hS q (h5 q hq), hb⟩
theorem Both.ok {w : World} {pb qb room came : Nat} {S : Nat → Prop} {L : List Ent} (h : Both w pb qb S room came L) : (∀ e ∈ L, EnOk e) ∧ L.length ≤ room ∧ room ≤ 4096 ∧ L.Pairwise (fun x y => ¬ (x.r = y.r ∧ x.n = y.n)) ∧ L.Pairwise (fun x y => x.a < y.a) := by
  obtain ⟨Sp, Sq, h1, -⟩ := h
  exact h1.ok
theorem Both.bound {w : World} {pb qb room came : Nat} {S : Nat → Prop} {L : List Ent} (h : Both w pb qb S room came L) : ∀ q, S q → q < w.heap.size := by
  obtain ⟨Sp, Sq, h1, h2, h3, h4, h5, h6⟩ := h
  exact h6
/-- What New of both makes. -/
theorem both_new {w1 w2 w3 : World} {pb qb room came : Nat} {L : List Ent} (hp : PatM w2 pb (fun q => w1.heap.size ≤ q) room came L) (hq : RfM w3 qb (fun q => w2.heap.size ≤ q) room L) (hb : Below w2.heap.size w2 w3) : Both w3 pb qb (fun q => w1.heap.size ≤ q ∧ q < w3.heap.size) room came L :=
  ⟨fun q => w1.heap.size ≤ q ∧ q < w2.heap.size, fun q => w2.heap.size ≤ q ∧ (w1.heap.size ≤ q ∧ q < w3.heap.size), (hp.mono (fun _ h1 h2 => ⟨h2, h1⟩)).kept (fun q _ hl => hb.block q hl), hq.mono (fun q h1 h2 => ⟨h2, by
    have : w1.heap.size < w2.heap.size ∨ w2.heap.size ≤ w1.heap.size := by omega
    obtain ⟨mb, v, H, hI⟩ := hp
    have h3 := hI.own pb (.inl (.inl rfl))
    have h4 := hI.hv.box.lt
    have h3 : w1.heap.size ≤ pb := h3
    omega, h1⟩), fun q h1 h2 => by have := h1.2; have := h2.1; omega, fun q h => ⟨h.1, Nat.lt_of_lt_of_le h.2 hb.size⟩, fun q h => h.2, fun q h => h.2⟩
/-- Either both refuse with the same word, or both begin. -/
theorem new_both (room : Int) (l : List Lr) (N : Nat) (hN : Hid (l.length = N)) :
    (∃ code : Int, ∀ (so : Option Addr) (c : Nat) (u : World), Hid (LnsAt u so l) → (Calls Try.prog 8 #[.int .i64 room, .slice so N c] u fun e w' => e = .returned (.tuple #[.pointer none, .int .i64 code]) ∧ Hid (Below u.heap.size u w')) ∧ (Calls Try.prog 34 #[.int .i64 room, .slice so N c] u fun e w' => e = .returned (.tuple #[.pointer none, .int .i64 code]) ∧ Hid (Below u.heap.size u w'))) ∨
    (∃ R : Nat, room = (R : Int) ∧ R ≤ 4096 ∧ N ≤ R ∧ ∀ (so : Option Addr) (c : Nat) (u : World), Hid (LnsAt u so l) → (Calls Try.prog 8 #[.int .i64 (R : Int), .slice so N c] u fun e w' => (∃ pb, e = .returned (.tuple #[ptB pb, .int .i64 0]) ∧ Hid (PatM w' pb (fun q => u.heap.size ≤ q) R N (entsL l))) ∧ Hid (Below u.heap.size u w')) ∧ (Calls Try.prog 34 #[.int .i64 (R : Int), .slice so N c] u fun e w' => (∃ qb, e = .returned (.tuple #[ptB qb, .int .i64 0]) ∧ Hid (RfM w' qb (fun q => u.heap.size ≤ q) R (entsL l))) ∧ Hid (Below u.heap.size u w'))) := by
  by_cases h1 : room < 0 ∨ 4096 < room
  · exact .inl ⟨2, fun so c u _ => ⟨(new_out room h1 so N c u).mono fun e w' ⟨a, b⟩ => ⟨a, by rw [b]; exact hid (Below.refl _ _)⟩, (newR_out room h1 so N c u).mono fun e w' ⟨a, b⟩ => ⟨a, by rw [b]; exact hid (Below.refl _ _)⟩⟩⟩
  · obtain ⟨R, rfl⟩ : ∃ R : Nat, room = (R : Int) := ⟨room.toNat, by omega⟩
    have hR : R ≤ 4096 := by omega
    by_cases h2 : R < N
    · exact .inl ⟨1, fun so c u _ => ⟨(new_many R N hR h2 so c u).mono fun e w' ⟨a, b⟩ => ⟨a, by rw [b]; exact hid (Below.refl _ _)⟩, (newR_many R N hR h2 so c u).mono fun e w' ⟨a, b⟩ => ⟨a, by rw [b]; exact hid (Below.refl _ _)⟩⟩⟩
    · by_cases h3 : okL l
      · refine .inr ⟨R, rfl, hR, by omega, fun so c u hu => ⟨(new_calls R hR l N hN (by omega) so c u hu).mono ?_, (newR_calls R hR l N hN (by omega) so c u hu).mono ?_⟩⟩
        · rintro e w' ⟨b, ⟨-, pb, rfl, hp⟩ | ⟨hb, -⟩⟩
          · exact ⟨⟨pb, rfl, by rw [hN.out] at hp; exact hp⟩, b⟩
          · exact absurd h3 hb.out
        · rintro e w' ⟨b, ⟨-, qb, rfl, hq⟩ | ⟨hb, -⟩⟩
          · exact ⟨⟨qb, rfl, hq⟩, b⟩
          · exact absurd h3 hb.out
      · refine .inl ⟨1, fun so c u hu => ⟨(new_calls R hR l N hN (by omega) so c u hu).mono ?_, (newR_calls R hR l N hN (by omega) so c u hu).mono ?_⟩⟩
        · rintro e w' ⟨b, ⟨hb, -⟩ | ⟨-, rfl⟩⟩
          · exact absurd hb.out h3
          · exact ⟨rfl, b⟩
        · rintro e w' ⟨b, ⟨hb, -⟩ | ⟨-, rfl⟩⟩
          · exact absurd hb.out h3
          · exact ⟨rfl, b⟩
theorem own_lns {w u : World} {B n g c : Nat} {l m : List Lr} {ao : Option Addr} (h : w.ownsRow B 25 4 (.slice (some ⟨g, 0, none⟩) n c) n ((l ++ m).flatMap lrL)) (hl : LnsAt u ao l) : LnsAt w (some ⟨g, 0, none⟩) l := fun j x hj => by
  refine ⟨(hl j x hj).1, g, 0, rfl, (h.lt g rfl).2, ?_⟩
  have h2 := rowL_at h (show (l ++ m)[j]? = some x by rw [List.getElem?_append_left (List.getElem?_eq_some_iff.1 hj).1]; exact hj)
  rw [Nat.zero_add]
  exact h2
theorem own_cs {w : World} {B n g c : Nat} {xs : List Value} (h : w.ownsRow B 25 4 (.slice (some ⟨g, 0, none⟩) n c) n xs) : ∃ cs : Array Value, At w g cs 25 ∧ cs.size = c * 4 := by
  rcases h.2 with ⟨h1, -⟩ | ⟨g', cap', cur, h1, hb, hg, h2, h3, h4, h5⟩
  · cases h1
  · cases h1
    exact ⟨cur, hg, h4⟩
/-- What begun leaves. -/
def BgP (w : World) (e : Ending) (w' : World) : Prop := ∃ pb qb room came L, e = .returned (.tuple #[ptB pb, ptB qb, .bool true]) ∧ came ≤ 4096 ∧ Hid (Both w' pb qb (fun q => w.heap.size ≤ q ∧ q < w'.heap.size) room came L) ∧ Hid (Below w.heap.size w w')
set_option maxRecDepth 10000 in
set_option maxHeartbeats 8000000 in
theorem begun_calls (room : Int) (l : List Lr) (ao : Option Addr) (N cap : Nat) (hN : Hid (l.length = N)) (hNi : N ≤ 2932031007400) (w : World) (hk : Hid (LnsAt w ao l)) :
    Calls Try.prog 13 #[.int .i64 room, .slice ao N cap] w fun e w' => BgP w e w' := by
  have hle := hid (lentL_calls l ao N cap hN hNi w hk)
  rcases new_both room l N hN with ⟨code, hnb⟩ | ⟨R, rfl, hR, hNR, hnb⟩
  · have hnb := hid hnb
    go_enter Try.func13, Try.ntmps13
    go_wp2_with fail
    refine Calls.mono hle.out ?_
    rintro e w1 ⟨g, c, rfl, hc, hown, b1⟩
    have hn1 := hid (hnb.out (some ⟨g, 0, none⟩) c w1 (hid (own_lns hown.out hk.out))).1
    clear hle
    go_wp2_with fail
    refine Calls.mono hn1.out ?_
    rintro e w2 ⟨rfl, b2⟩
    have B2 := hid (show Below w.heap.size w w2 from b1.out.trans (b2.out.mono b1.out.size))
    have hn2 := hid (hnb.out ao cap w2 (hid (hk.out.kept B2.out)))
    clear hn1
    go_wp2_with fail
    refine Calls.mono hn2.out.2 ?_
    rintro e w3 ⟨rfl, b3⟩
    have B3 := hid (show Below w.heap.size w w3 from B2.out.trans (b3.out.mono B2.out.size))
    have b13 := hid (show Below w1.heap.size w1 w3 from b2.out.trans (b3.out.mono b2.out.size))
    have own3 := hid (own_onP (W' := w3) hown.out (fun q _ _ hl => b13.out.block q hl))
    have hkp := hid (keptL_calls l ao N cap g c _ hN hNi hc w3 own3 (hid (hk.out.kept B3.out)))
    clear hn2 hnb
    go_wp2_with fail
    refine Calls.mono hkp.out ?_
    rintro e w4 ⟨rfl, b4⟩
    have B4 := hid (show Below w.heap.size w w4 from B3.out.trans (b4.mono B3.out.size))
    have hov := hid (overL_calls N g c hNi hc w4 (hid (own_cs (own_onP (W' := w4) own3.out (fun q _ _ hl => b4.block q hl)))))
    have hgw := hid (show w.heap.size ≤ g from (hown.out.lt g rfl).1)
    clear hkp b4 own3 b13 B3 B2 b1 b2 b3 hown
    go_wp2_with fail
    refine Calls.mono hov.out ?_
    rintro e w5 ⟨rfl, l5⟩
    have B5 := hid (show Below w.heap.size w w5 from B4.out.trans ((l5.out.below (B := w.heap.size) B4.out.size (fun q h => by rw [h]; exact hgw.out)).mono (Nat.le_refl _)))
    have hnA := hid (new_calls 3 (by decide) [] 0 (hid rfl) (by decide) none 0 w5 (hid (lns_none _ _)))
    clear hov l5 B4
    go_wp2_with fail
    refine Calls.mono hnA.out ?_
    rintro e w6 ⟨b6, ⟨-, pb, rfl, P6⟩ | ⟨hbad, -⟩⟩
    rotate_left
    · exact absurd ⟨fun x hx => by simp at hx, List.Pairwise.nil⟩ hbad.out
    have hnB := hid (newR_calls 3 (by decide) [] 0 (hid rfl) (by decide) none 0 w6 (hid (lns_none _ _)))
    clear hnA
    go_wp2_with fail
    refine Calls.mono hnB.out ?_
    rintro e w7 ⟨b7, ⟨-, qb, rfl, Q7⟩ | ⟨hbad, -⟩⟩
    rotate_left
    · exact absurd ⟨fun x hx => by simp at hx, List.Pairwise.nil⟩ hbad.out
    have B7 := hid (show Below w.heap.size w w7 from B5.out.trans ((b6.out.trans (b7.out.mono b6.out.size)).mono B5.out.size))
    have hb7 := hid ((both_new P6.out Q7.out b7.out).wide (S' := fun q => w.heap.size ≤ q ∧ q < w7.heap.size) (fun q h => ⟨Nat.le_trans B5.out.size h.1, h.2⟩) (fun q h => h.2))
    clear hnB P6 Q7 b6 b7 B5
    go_wp2
    go_ret3
    exact ⟨pb, qb, _, _, _, rfl, by simp, hb7, B7⟩
  · have hnb := hid hnb
    have hRi : (R : Int) ≤ 4096 := by omega
    go_enter Try.func13, Try.ntmps13
    go_wp2_with fail
    refine Calls.mono hle.out ?_
    rintro e w1 ⟨g, c, rfl, hc, hown, b1⟩
    have hn1 := hid (hnb.out (some ⟨g, 0, none⟩) c w1 (hid (own_lns hown.out hk.out))).1
    clear hle
    go_wp2_with fail
    refine Calls.mono hn1.out ?_
    rintro e w2 ⟨⟨pb, rfl, P2⟩, b2⟩
    have B2 := hid (show Below w.heap.size w w2 from b1.out.trans (b2.out.mono b1.out.size))
    have hn2 := hid (hnb.out ao cap w2 (hid (hk.out.kept B2.out)))
    clear hn1
    go_wp2_with fail
    refine Calls.mono hn2.out.2 ?_
    rintro e w3 ⟨⟨qb, rfl, Q3⟩, b3⟩
    have hb3 := hid (both_new P2.out Q3.out b3.out)
    have B3 := hid (show Below w.heap.size w w3 from B2.out.trans (b3.out.mono B2.out.size))
    have b13 := hid (show Below w1.heap.size w1 w3 from b2.out.trans (b3.out.mono b2.out.size))
    have own3 := hid (own_onP (W' := w3) hown.out (fun q _ _ hl => b13.out.block q hl))
    have hkp := hid (keptL_calls l ao N cap g c _ hN hNi hc w3 own3 (hid (hk.out.kept B3.out)))
    clear hn2 hnb P2 Q3
    go_wp2_with fail
    refine Calls.mono hkp.out ?_
    rintro e w4 ⟨rfl, b4⟩
    have B4 := hid (show Below w.heap.size w w4 from B3.out.trans (b4.mono B3.out.size))
    have hb4 := hid (hb3.out.keptB b4)
    have hov := hid (overL_calls N g c hNi hc w4 (hid (own_cs (own_onP (W' := w4) own3.out (fun q _ _ hl => b4.block q hl)))))
    have hgw := hid (show w.heap.size ≤ g ∧ g < w1.heap.size from hown.out.lt g rfl)
    have hs34 := hid (show w3.heap.size ≤ w4.heap.size from b4.size)
    clear hkp b4 own3 b13 B3 B2 b2 b3 hown hb3
    go_wp2_with fail
    refine Calls.mono hov.out ?_
    rintro e w5 ⟨rfl, l5⟩
    have B5 := hid (show Below w.heap.size w w5 from B4.out.trans ((l5.out.below (B := w.heap.size) B4.out.size (fun q h => by rw [h]; exact hgw.out.1)).mono (Nat.le_refl _)))
    have hb5 := hid ((hb4.out.kept (w' := w5) l5.out.size (fun q h hl => l5.out.block q hl (fun e => by have h1 := hgw.out.2; have h2 := h.1; omega))).wide (S' := fun q => w.heap.size ≤ q ∧ q < w5.heap.size) (fun q h => ⟨Nat.le_trans b1.out.size h.1, Nat.lt_of_lt_of_le h.2 (Nat.le_trans hs34.out l5.out.size)⟩) (fun q h => h.2))
    clear hov l5 B4 hb4
    go_wp2
    go_ret3
    exact ⟨pb, qb, _, _, _, rfl, by omega, hb5, B5⟩
end Go.Proofs.Ytiggfigjibggaaa
