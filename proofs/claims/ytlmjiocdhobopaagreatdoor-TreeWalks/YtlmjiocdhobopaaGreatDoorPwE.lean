/-
 tree.Walk: what its rounds tell; quarrylaw20.twice.
-/
import Derived.Test.YtlmjiocdhobopaaGreatDoorPwC
import Derived.Test.YtlmjiocdhobopaaGreatDoorPwD
import Derived.Test.YtlmjiocdhobopaaGreatDoorTpC2
namespace Go.Proofs.YtlmjiocdhobopaaGreatDoor
open Go.RowKit Go.Shelf
set_option maxRecDepth 10000 in
set_option maxHeartbeats 4000000 in
theorem walkF_calls (t : Vt) (hwf : Hid (wfV t 1024 = true)) (hln : lnV t) (k : Int) (b : Bool) (r tx : ByteArray) (ko : Option Addr) (N kc : Nat) (vo : Option Addr) (M vc : Nat) (w : World) (hT : Hid (TabU w)) (ha : Hid (ValAt w t (.agg #[.int .i64 k, .bool b, .string r, .string tx, .slice ko N kc, .slice vo M vc]))) :
  Calls Tryz.prog 4 #[.agg #[.int .i64 k, .bool b, .string r, .string tx, .slice ko N kc, .slice vo M vc]] w fun e w' => ∃ (Bk : Nat) (cs : Array Value), e = .returned (.func (.func 15) #[] #[.pointer (some ⟨Bk, 0, none⟩)]) ∧ w.heap.size ≤ Bk ∧ At w' Bk cs 25 ∧ ValOn (fun b => w.heap.size ≤ b) w' t (.agg cs) ∧ Below w.heap.size w w' := by
 have hmf : ∀ (fn : Fn) (first cap : Array Value) (w : World), (Instr.makeFunc fn first cap).run Tryz.prog w = .ok (.func fn first cap) w := fun _ _ _ _ => rfl
 have A1 : Hid (At (w.alloc (.cells #[.int .i64 k, .bool b, .string r, .string tx, .slice ko N kc, .slice vo M vc] 25)) w.heap.size #[.int .i64 k, .bool b, .string r, .string tx, .slice ko N kc, .slice vo M vc] 25) := At.new w _ _
 have B1 : Hid (Below w.heap.size w (w.alloc (.cells #[.int .i64 k, .bool b, .string r, .string tx, .slice ko N kc, .slice vo M vc] 25))) := (Below.refl _ w).alloc (Nat.le_refl _) _
 have hf := hid (fun u (h1 : TabU u) h2 => formedP_calls t (.agg #[.int .i64 k, .bool b, .string r, .string tx, .slice ko N kc, .slice vo M vc]) u h1 h2)
 rw [hwf.out] at hf
 have hcp := hid (fun u h => copiedP_ex _ t (Nat.le_refl _) hln (.agg #[.int .i64 k, .bool b, .string r, .string tx, .slice ko N kc, .slice vo M vc]) u h)
 generalize hW1 : w.alloc (.cells #[.int .i64 k, .bool b, .string r, .string tx, .slice ko N kc, .slice vo M vc] 25) = W1 at A1 B1
 go_enter Tryz.func4, Tryz.ntmps4
 go_wp2_with (first | refine wpList_load_want 25 _ w.heap.size 0 [.int .i64 k, .bool b, .string r, .string tx, .slice ko N kc, .slice vo M vc] _ (A1.out.range rfl) Tryz.underlying25 sizeVl rfl rfl rfl (by rfl) ?_ | fail)
 refine Calls.mono (hf.out _ (hT.out.below B1.out) (ha.out.kept B1.out)) ?_
 rintro e W2 ⟨rfl, b2⟩
 have A2 := hid (A1.out.keptAll b2)
 have B2 := hid (B1.out.trans (b2.mono B1.out.size))
 clear hf b2 A1 B1 hW1
 go_wp2_with (first | refine wpList_load_want 25 _ w.heap.size 0 [.int .i64 k, .bool b, .string r, .string tx, .slice ko N kc, .slice vo M vc] _ (A2.out.range rfl) Tryz.underlying25 sizeVl rfl rfl rfl (by rfl) ?_ | fail)
 refine Calls.mono (hcp.out _ (ha.out.kept B2.out)) ?_
 rintro e W3 ⟨x, rfl, vx, b3⟩
 obtain ⟨k1, b1, r1, t1, ko1, N1, kc1, vo1, M1, vc1, rfl⟩ := vx.at.lets
 have B3 := hid (B2.out.trans (b3.mono B2.out.size))
 have V3 := hid (vx.mono (S' := fun c => w.heap.size ≤ c) (fun c _ hc => Nat.le_trans B2.out.size hc))
 clear hcp b3 vx A2
 have N4 := hid (At.new W3 #[.int .i64 k1, .bool b1, .string r1, .string t1, .slice ko1 N1 kc1, .slice vo1 M1 vc1] 25)
 have B4 := hid (show Below W3.heap.size W3 (W3.alloc (.cells #[.int .i64 k1, .bool b1, .string r1, .string t1, .slice ko1 N1 kc1, .slice vo1 M1 vc1] 25)) from (Below.refl _ _).alloc (Nat.le_refl _) _)
 have hb3 := hid B3.out.size
 go_wp2
 go_ret
 exact ⟨W3.heap.size, _, rfl, hb3.out, N4.out, V3.out.keptB B4.out, B3.out.trans (B4.out.mono B3.out.size)⟩
set_option maxRecDepth 10000 in
set_option maxHeartbeats 4000000 in
/-- What the rounds of a Walk tell: the value and its parts. -/
theorem walk2_tell (S : Nat → Prop) (n : Nat) (t : Vt) (hln : lnV t) (hok : okP t) (hb : ∀ x ∈ prV [] t, x.1.length ≤ 1099511627776) (Bk : Nat) (cs : Array Value) (w : World) (hA : At w Bk cs 25) (hV : ValOn S w t (.agg cs)) :
  SeqTellR (fun W => PowT W ∧ MxI W) n Tryz.prog 15 #[.pointer (some ⟨Bk, 0, none⟩)] (TellE (prV [] t)) (KpC S) (prV [] t).length w := by
 intro l J Jx W hbW hJ hJx hGd hY h0
 obtain ⟨k1, b1, r1, t1, ko1, N1, kc1, vo1, M1, vc1, he⟩ := hV.at.lets
 injection he with he
 subst he
 have hA' := hid (hA.keptAll hbW)
 have hV' := hid (hV.keptB hbW)
 have hw := hid (callsIn_wide.1 (walk_ex S W.heap.size l n J Jx (prV [] t) hJ hGd hb hY _ t (Nat.le_refl _) hln hok [] _ 0 W (Nat.le_refl _) hV'.out h0 (fun i x hx => by rw [Nat.zero_add]; exact hx)))
 refine callsIn_of_wp Tryz.func15 rfl trivial ?_ rfl
 simp only [Tryz.ntmps15, List.size_toArray, List.length_cons, List.length_nil, Nat.reduceAdd, Nat.reduceSub, Array.replicate_succ, Array.replicate_zero, List.push_toArray, List.append_toArray, List.nil_append, List.cons_append]
 clear hY hGd hJ hJx h0 hb
 gi_wp2_with (first | refine wpListIn_load_want 25 _ Bk 0 [.int .i64 k1, .bool b1, .string r1, .string t1, .slice ko1 N1 kc1, .slice vo1 M1 vc1] _ (hA'.out.range rfl) Tryz.underlying25 sizeVl rfl rfl rfl (by rfl) ?_ | fail)
 refine ⟨trivial, (fun h => by cases h), ?_⟩
 refine (callsIn_wide.2 hw.out).mono ?_
 rintro e W' hor
 obtain ⟨Bq, rfl, hor'⟩ : ∃ Bq : Bool, e = .returned (.bool Bq) ∧ Hid (J (prV [] t).length W' ∨ ∃ r, r ≤ (prV [] t).length ∧ Jx r W') := by
  rcases hor with ⟨h1, h2, h3⟩ | ⟨h1, h2, h3⟩
  ·exact ⟨true, h1, hid (.inl (by rw [Nat.zero_add] at h2; exact h2))⟩
  ·exact ⟨false, h1, hid (.inr h2)⟩
 clear hor hw
 gi_wp2
 refine bodyPost_end (results_none rfl _ _ _) rfl ?_
 exact ⟨⟨_, rfl⟩, hor'.out⟩
end Go.Proofs.YtlmjiocdhobopaaGreatDoor
