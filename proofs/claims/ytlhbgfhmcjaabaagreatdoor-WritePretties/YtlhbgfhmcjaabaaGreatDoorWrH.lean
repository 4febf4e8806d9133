/-
 write.Compact (by gen_wrh.py).
-/
import Derived.Test.YtlhbgfhmcjaabaaGreatDoorWrG
import Derived.Test.YtlhbgfhmcjaabaaGreatDoorTpC2
namespace Go.Proofs.YtlhbgfhmcjaabaaGreatDoor
open Go.RowKit Go.Shelf
/-- The compact text. -/
def cmpL (t : Vt) : List UInt8 := ptV ⟨#[58]⟩ ⟨#[]⟩ 0 t 0
set_option maxRecDepth 10000 in
set_option maxHeartbeats 4000000 in
theorem compact_calls (t : Vt) (va : Value) (hwf : wfV t 1024 = true) (hsz : szV t) (hdp : depV t ≤ 1048576) (hn : (cmpL t).length ≤ 140737488355328) (w : World) (ha : ValAt w t va) :
  Calls Tryz.prog 25 #[va] w fun e w' => e = .returned (.string ⟨(cmpL t).toArray⟩) ∧ Below w.heap.size w w' := by
 have hon := ha.on
 obtain ⟨hk1, hk6⟩ : 1 ≤ t.kind ∧ t.kind ≤ 6 := by
  cases t with
  | mk k b r t ks vs => exact ⟨(wf_kind hwf).1, (wf_kind hwf).2.1⟩
 obtain ⟨ko, kc, vo, vc, rfl⟩ := hon.six
 obtain ⟨p, hp⟩ : ∃ p, Hid (w.heap.size = p) := ⟨_, rfl⟩
 have hput := hid (fun ks' vs' x h1 h2 h3 => putV_ex (p + 1) (p + 2) ⟨#[58]⟩ ⟨#[]⟩ 0 1048576 (by omega) (by decide) (fun d _ => .inl rfl) _ t (Nat.le_refl _) 1024 hwf hsz 0 (by omega) ks' vs' [] (cmpL t) x h1 (by simp [cmpL]) hn h2 h3)
 have hki := hid (fun x => kind_calls t.kind hk1 hk6 t.b t.raw t.text ko vo t.keys.length kc t.kids.length vc x)
 rw [hp.out] at hon
 generalize t.kind = k at *
 generalize t.b = b at *
 generalize t.raw = r at *
 generalize t.text = tx at *
 generalize t.keys.length = N at *
 generalize t.kids.length = M at *
 have q1 : Below w.heap.size w (w.alloc (.cells #[.int .i64 k, .bool b, .string r, .string tx, .slice ko N kc, .slice vo M vc] 25)) := (Below.refl _ _).alloc (Nat.le_refl _) _
 have z1 : (w.alloc (.cells #[.int .i64 k, .bool b, .string r, .string tx, .slice ko N kc, .slice vo M vc] 25)).heap.size = p + 1 := by rw [World.size_alloc, hp.out]
 have A0 := (At.new w #[.int .i64 k, .bool b, .string r, .string tx, .slice ko N kc, .slice vo M vc] 25)
 rw [hp.out] at A0
 have A1 := hid (A0.alloc (.cells #[.pointer none, .slice none 0 0, .string ⟨#[58]⟩, .string ⟨#[]⟩, .int .i64 0] 51))
 have X1 := At.new (w.alloc (.cells #[.int .i64 k, .bool b, .string r, .string tx, .slice ko N kc, .slice vo M vc] 25)) #[.pointer none, .slice none 0 0, .string ⟨#[58]⟩, .string ⟨#[]⟩, .int .i64 0] 51
 rw [z1] at X1
 have B1 : Below p w ((w.alloc (.cells #[.int .i64 k, .bool b, .string r, .string tx, .slice ko N kc, .slice vo M vc] 25)).alloc (.cells #[.pointer none, .slice none 0 0, .string ⟨#[58]⟩, .string ⟨#[]⟩, .int .i64 0] 51)) := by rw [← hp.out]; exact q1.alloc (by rw [World.size_alloc]; omega) _
 have z2 : Hid (((w.alloc (.cells #[.int .i64 k, .bool b, .string r, .string tx, .slice ko N kc, .slice vo M vc] 25)).alloc (.cells #[.pointer none, .slice none 0 0, .string ⟨#[58]⟩, .string ⟨#[]⟩, .int .i64 0] 51)).heap.size = p + 2) := by show _ = _; rw [World.size_alloc, z1]
 have D1 : Hid (WdI ((w.alloc (.cells #[.int .i64 k, .bool b, .string r, .string tx, .slice ko N kc, .slice vo M vc] 25)).alloc (.cells #[.pointer none, .slice none 0 0, .string ⟨#[58]⟩, .string ⟨#[]⟩, .int .i64 0] 51)) (p + 1) (p + 2) ⟨#[58]⟩ ⟨#[]⟩ ((0 : Nat) : Int) []) := ⟨_, _, X1, .inl rfl, World.ownsRow_nil _ _ _ _⟩
 have V1 := hid (hon.kept (S' := fun c => c < p + 1) (fun c _ h => Nat.lt_succ_of_lt h) ⟨B1.size, fun c h _ => B1.block c h⟩)
 have B1' := hid B1
 clear q1 z1 A0 X1 B1 hon ha
 go_enter Tryz.func25, Tryz.ntmps25
 go_upto_region 2 with fail
 rw [hp.out]
 generalize (w.alloc (.cells #[.int .i64 k, .bool b, .string r, .string tx, .slice ko N kc, .slice vo M vc] 25)).alloc (.cells #[.pointer none, .slice none 0 0, .string ⟨#[58]⟩, .string ⟨#[]⟩, .int .i64 0] 51) = W1 at A1 D1 V1 B1' z2 ⊢
 have d0 := A1.out.cell 0
 have d1 := A1.out.cell 1
 have d2 := A1.out.cell 2
 have d3 := A1.out.cell 3
 have d4 := A1.out.cell 4
 have d5 := A1.out.cell 5
 simp only [List.getElem?_toArray, List.getElem?_cons_zero, List.getElem?_cons_succ] at d0 d1 d2 d3 d4 d5
 go_wp2_with (go_at_call 32; refine Calls.mono (hki.out W1) ?_; rintro e w2 ⟨rfl, hb2⟩; have D2 := hid (D1.out.kept hb2); have V2 := hid (V1.out.keptB hb2); have B2 := hid (B1'.out.trans (hb2.mono (by rw [z2.out]; omega))); have hB2 : p + 2 ≤ w2.heap.size := (by have := hb2.size; rw [z2.out] at this; exact this); clear hb2 hki D1 V1 d0 d1 d2 d3 d4 d5)
 refine Calls.mono (hput.out _ _ w2 V2.out D2.out hB2) ?_
 rintro e w3 ⟨rfl, hd3, hf3⟩
 have D3 := hid hd3
 have B3 := hid (B2.out.trans (hf3.low.mono (by omega)))
 have hB3 : p + 2 ≤ w3.heap.size := Nat.le_trans hB2 hf3.low.size
 clear hd3 hf3 D2 V2 B2 hB2 hput B1'
 have hst := hid (wstring_calls ⟨#[58]⟩ ⟨#[]⟩ ((0 : Nat) : Int) (p + 1) (p + 2) p _ w3 D3.out (by omega) hB3)
 go_wp2_with fail
 refine Calls.mono hst.out ?_
 rintro e w4 ⟨rfl, hb4, -⟩
 have B4 := hid (B3.out.trans hb4)
 clear hst hb4 D3 B3
 go_wp2
 go_ret
 rw [hp.out]
 exact ⟨rfl, B4.out⟩
set_option maxRecDepth 10000 in
set_option maxHeartbeats 4000000 in
theorem cmp_calls (t : Vt) (va : Value) (hsz : szV t) (hdp : depV t ≤ 1048576) (hn : (cmpL t).length ≤ 140737488355328) (w : World) (hT : TabU w) (ha : ValAt w t va) (F : Bool) (hF : wfV t 1024 = F) :
  Calls Tryz.prog 9 #[va] w fun e w' => e = .returned (.tuple #[.string (if F then ⟨(cmpL t).toArray⟩ else ⟨#[]⟩), .int .i64 (if F then 0 else 1)]) ∧ Below w.heap.size w w' := by
 have hfo := hid (fun u h0 h1 => formedP_calls t va u h0 h1)
 rw [hF] at hfo
 have hco := hid (fun (e : F = true) u h1 => compact_calls t va (hF.trans e) hsz hdp hn u h1)
 have ha' := hid ha
 have hT' := hid hT
 cases ha with
 | mk k b r t0 ks vs ko kc vo vc X hw hzz hk hr hv =>
 clear hw hzz hk hr hv hF hsz hdp hn hT
 generalize ks.length = N at *
 generalize vs.length = M at *
 generalize cmpL (.mk k b r t0 ks vs) = CL at *
 have A1 : Hid (At (w.alloc (.cells #[.int .i64 k, .bool b, .string r, .string t0, .slice ko N kc, .slice vo M vc] 25)) w.heap.size #[.int .i64 k, .bool b, .string r, .string t0, .slice ko N kc, .slice vo M vc] 25) := At.new w _ _
 have B1 : Hid (Below w.heap.size w (w.alloc (.cells #[.int .i64 k, .bool b, .string r, .string t0, .slice ko N kc, .slice vo M vc] 25))) := (Below.refl _ w).alloc (Nat.le_refl _) _
 go_enter Tryz.func9, Tryz.ntmps9
 go_upto_region 1 with fail
 generalize w.alloc (.cells #[.int .i64 k, .bool b, .string r, .string t0, .slice ko N kc, .slice vo M vc] 25) = W1 at A1 B1 ⊢
 have d0 := A1.out.cell 0
 have d1 := A1.out.cell 1
 have d2 := A1.out.cell 2
 have d3 := A1.out.cell 3
 have d4 := A1.out.cell 4
 have d5 := A1.out.cell 5
 simp only [List.getElem?_toArray, List.getElem?_cons_zero, List.getElem?_cons_succ] at d0 d1 d2 d3 d4 d5
 go_wp2_with fail
 refine Calls.mono (hfo.out W1 (hT'.out.below B1.out) (ha'.out.kept B1.out)) ?_
 rintro e w2 ⟨rfl, hb2⟩
 have A2 := hid (A1.out.keptAll hb2)
 have B2 := hid (B1.out.trans (hb2.mono B1.out.size))
 clear hb2 hfo A1 B1 d0 d1 d2 d3 d4 d5
 cases F with
 | false =>
  go_wp2
  refine bodyPost_ret (v := .tuple #[.string ⟨#[]⟩, .int .i64 1]) (by simp [results, Tryz.results9, go_sem]) rfl ⟨rfl, B2.out⟩
 | true =>
  have d0 := A2.out.cell 0
  have d1 := A2.out.cell 1
  have d2 := A2.out.cell 2
  have d3 := A2.out.cell 3
  have d4 := A2.out.cell 4
  have d5 := A2.out.cell 5
  simp only [List.getElem?_toArray, List.getElem?_cons_zero, List.getElem?_cons_succ] at d0 d1 d2 d3 d4 d5
  have hc2 := hid (hco.out (by first | rfl | trivial) w2 (ha'.out.kept B2.out))
  go_wp2_with fail
  refine Calls.mono hc2.out ?_
  rintro e w3 ⟨rfl, hb3⟩
  have B3 := hid (B2.out.trans (hb3.mono B2.out.size))
  clear hb3 hc2
  go_wp2
  refine bodyPost_ret (v := .tuple #[.string ⟨CL.toArray⟩, .int .i64 0]) (by simp [results, Tryz.results9, go_sem]) rfl ⟨rfl, B3.out⟩
end Go.Proofs.YtlhbgfhmcjaabaaGreatDoor
