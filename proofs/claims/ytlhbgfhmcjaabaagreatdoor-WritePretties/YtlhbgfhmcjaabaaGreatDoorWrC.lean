/-
 write.kindOf; the writer's small functions (by gen_wrc.py).
-/
import Derived.Test.YtlhbgfhmcjaabaaGreatDoorWrB
import Derived.Test.YtlhbgfhmcjaabaaGreatDoorTrO
import Derived.Deep.DeepCutAuto
import Derived.Deep.RegionHeld
import Derived.BigQuiet
namespace Go.Proofs.YtlhbgfhmcjaabaaGreatDoor
open Go.RowKit Go.Shelf
set_option maxRecDepth 10000 in
set_option maxHeartbeats 4000000 in
theorem kind_true (r t : ByteArray) (ko vo : Option Addr) (N kc M vc : Nat) (w : World) :
  Calls Tryz.prog 32 #[.agg #[.int .i64 2, .bool true, .string r, .string t, .slice ko N kc, .slice vo M vc]] w fun e w' => e = .returned (.iface 74 (.string ⟨#[116, 114, 117, 101]⟩)) ∧ Below w.heap.size w w' := by
 have A0 := hid (At.new w #[.int .i64 2, .bool true, .string r, .string t, .slice ko N kc, .slice vo M vc] 25)
 have B0 := hid (show Below w.heap.size w (w.alloc (.cells #[.int .i64 2, .bool true, .string r, .string t, .slice ko N kc, .slice vo M vc] 25)) from (Below.refl _ _).alloc (Nat.le_refl _) _)
 obtain ⟨p, hp⟩ : ∃ p, w.heap.size = p := ⟨_, rfl⟩
 rw [hp] at A0
 go_enter Tryz.func32, Tryz.ntmps32
 go_upto_region 1 with fail
 generalize w.alloc (.cells #[.int .i64 2, .bool true, .string r, .string t, .slice ko N kc, .slice vo M vc] 25) = W at A0 B0 ⊢
 have hB := hid B0.out
 clear B0
 have d0 := A0.out.cell 0
 have d1 := A0.out.cell 1
 have d2 := A0.out.cell 2
 have d3 := A0.out.cell 3
 have d4 := A0.out.cell 4
 have d5 := A0.out.cell 5
 simp only [List.getElem?_toArray, List.getElem?_cons_zero, List.getElem?_cons_succ] at d0 d1 d2 d3 d4 d5
 go_wp2
 go_ret
 exact ⟨rfl, hB.out⟩
set_option maxRecDepth 10000 in
set_option maxHeartbeats 4000000 in
theorem kind_false (r t : ByteArray) (ko vo : Option Addr) (N kc M vc : Nat) (w : World) :
  Calls Tryz.prog 32 #[.agg #[.int .i64 2, .bool false, .string r, .string t, .slice ko N kc, .slice vo M vc]] w fun e w' => e = .returned (.iface 74 (.string ⟨#[102, 97, 108, 115, 101]⟩)) ∧ Below w.heap.size w w' := by
 have A0 := hid (At.new w #[.int .i64 2, .bool false, .string r, .string t, .slice ko N kc, .slice vo M vc] 25)
 have B0 := hid (show Below w.heap.size w (w.alloc (.cells #[.int .i64 2, .bool false, .string r, .string t, .slice ko N kc, .slice vo M vc] 25)) from (Below.refl _ _).alloc (Nat.le_refl _) _)
 obtain ⟨p, hp⟩ : ∃ p, w.heap.size = p := ⟨_, rfl⟩
 rw [hp] at A0
 go_enter Tryz.func32, Tryz.ntmps32
 go_upto_region 1 with fail
 generalize w.alloc (.cells #[.int .i64 2, .bool false, .string r, .string t, .slice ko N kc, .slice vo M vc] 25) = W at A0 B0 ⊢
 have hB := hid B0.out
 clear B0
 have d0 := A0.out.cell 0
 have d1 := A0.out.cell 1
 have d2 := A0.out.cell 2
 have d3 := A0.out.cell 3
 have d4 := A0.out.cell 4
 have d5 := A0.out.cell 5
 simp only [List.getElem?_toArray, List.getElem?_cons_zero, List.getElem?_cons_succ] at d0 d1 d2 d3 d4 d5
 go_wp2
 go_ret
 exact ⟨rfl, hB.out⟩
set_option maxRecDepth 10000 in
set_option maxHeartbeats 4000000 in
theorem kind_num (b : Bool) (r t : ByteArray) (ko vo : Option Addr) (N kc M vc : Nat) (w : World) :
  Calls Tryz.prog 32 #[.agg #[.int .i64 3, .bool b, .string r, .string t, .slice ko N kc, .slice vo M vc]] w fun e w' => e = .returned (.iface 74 (.string r)) ∧ Below w.heap.size w w' := by
 have A0 := hid (At.new w #[.int .i64 3, .bool b, .string r, .string t, .slice ko N kc, .slice vo M vc] 25)
 have B0 := hid (show Below w.heap.size w (w.alloc (.cells #[.int .i64 3, .bool b, .string r, .string t, .slice ko N kc, .slice vo M vc] 25)) from (Below.refl _ _).alloc (Nat.le_refl _) _)
 obtain ⟨p, hp⟩ : ∃ p, w.heap.size = p := ⟨_, rfl⟩
 rw [hp] at A0
 go_enter Tryz.func32, Tryz.ntmps32
 go_upto_region 1 with fail
 generalize w.alloc (.cells #[.int .i64 3, .bool b, .string r, .string t, .slice ko N kc, .slice vo M vc] 25) = W at A0 B0 ⊢
 have hB := hid B0.out
 clear B0
 have d0 := A0.out.cell 0
 have d1 := A0.out.cell 1
 have d2 := A0.out.cell 2
 have d3 := A0.out.cell 3
 have d4 := A0.out.cell 4
 have d5 := A0.out.cell 5
 simp only [List.getElem?_toArray, List.getElem?_cons_zero, List.getElem?_cons_succ] at d0 d1 d2 d3 d4 d5
 go_wp2
 go_ret
 exact ⟨rfl, hB.out⟩
set_option maxRecDepth 10000 in
set_option maxHeartbeats 4000000 in
theorem kind_text (b : Bool) (r t : ByteArray) (ko vo : Option Addr) (N kc M vc : Nat) (w : World) :
  Calls Tryz.prog 32 #[.agg #[.int .i64 4, .bool b, .string r, .string t, .slice ko N kc, .slice vo M vc]] w fun e w' => e = .returned (.iface 75 (.string t)) ∧ Below w.heap.size w w' := by
 have A0 := hid (At.new w #[.int .i64 4, .bool b, .string r, .string t, .slice ko N kc, .slice vo M vc] 25)
 have B0 := hid (show Below w.heap.size w (w.alloc (.cells #[.int .i64 4, .bool b, .string r, .string t, .slice ko N kc, .slice vo M vc] 25)) from (Below.refl _ _).alloc (Nat.le_refl _) _)
 obtain ⟨p, hp⟩ : ∃ p, w.heap.size = p := ⟨_, rfl⟩
 rw [hp] at A0
 go_enter Tryz.func32, Tryz.ntmps32
 go_upto_region 1 with fail
 generalize w.alloc (.cells #[.int .i64 4, .bool b, .string r, .string t, .slice ko N kc, .slice vo M vc] 25) = W at A0 B0 ⊢
 have hB := hid B0.out
 clear B0
 have d0 := A0.out.cell 0
 have d1 := A0.out.cell 1
 have d2 := A0.out.cell 2
 have d3 := A0.out.cell 3
 have d4 := A0.out.cell 4
 have d5 := A0.out.cell 5
 simp only [List.getElem?_toArray, List.getElem?_cons_zero, List.getElem?_cons_succ] at d0 d1 d2 d3 d4 d5
 go_wp2
 go_ret
 exact ⟨rfl, hB.out⟩
set_option maxRecDepth 10000 in
set_option maxHeartbeats 4000000 in
theorem kind_arr (b : Bool) (r t : ByteArray) (ko vo : Option Addr) (N kc M vc : Nat) (w : World) :
  Calls Tryz.prog 32 #[.agg #[.int .i64 5, .bool b, .string r, .string t, .slice ko N kc, .slice vo M vc]] w fun e w' => e = .returned (.iface 77 (.slice vo M vc)) ∧ Below w.heap.size w w' := by
 have A0 := hid (At.new w #[.int .i64 5, .bool b, .string r, .string t, .slice ko N kc, .slice vo M vc] 25)
 have B0 := hid (show Below w.heap.size w (w.alloc (.cells #[.int .i64 5, .bool b, .string r, .string t, .slice ko N kc, .slice vo M vc] 25)) from (Below.refl _ _).alloc (Nat.le_refl _) _)
 obtain ⟨p, hp⟩ : ∃ p, w.heap.size = p := ⟨_, rfl⟩
 rw [hp] at A0
 go_enter Tryz.func32, Tryz.ntmps32
 go_upto_region 1 with fail
 generalize w.alloc (.cells #[.int .i64 5, .bool b, .string r, .string t, .slice ko N kc, .slice vo M vc] 25) = W at A0 B0 ⊢
 have hB := hid B0.out
 clear B0
 have d0 := A0.out.cell 0
 have d1 := A0.out.cell 1
 have d2 := A0.out.cell 2
 have d3 := A0.out.cell 3
 have d4 := A0.out.cell 4
 have d5 := A0.out.cell 5
 simp only [List.getElem?_toArray, List.getElem?_cons_zero, List.getElem?_cons_succ] at d0 d1 d2 d3 d4 d5
 go_wp2
 go_ret
 exact ⟨rfl, hB.out⟩
set_option maxRecDepth 10000 in
set_option maxHeartbeats 4000000 in
theorem kind_obj (b : Bool) (r t : ByteArray) (ko vo : Option Addr) (N kc M vc : Nat) (w : World) :
  Calls Tryz.prog 32 #[.agg #[.int .i64 6, .bool b, .string r, .string t, .slice ko N kc, .slice vo M vc]] w fun e w' => e = .returned (.iface 80 (.agg #[.slice ko N kc, .slice vo M vc])) ∧ Below w.heap.size w w' := by
 have A0 := hid (At.new w #[.int .i64 6, .bool b, .string r, .string t, .slice ko N kc, .slice vo M vc] 25)
 have B0 := hid (show Below w.heap.size w (w.alloc (.cells #[.int .i64 6, .bool b, .string r, .string t, .slice ko N kc, .slice vo M vc] 25)) from (Below.refl _ _).alloc (Nat.le_refl _) _)
 obtain ⟨p, hp⟩ : ∃ p, w.heap.size = p := ⟨_, rfl⟩
 rw [hp] at A0
 go_enter Tryz.func32, Tryz.ntmps32
 go_upto_region 1 with fail
 generalize w.alloc (.cells #[.int .i64 6, .bool b, .string r, .string t, .slice ko N kc, .slice vo M vc] 25) = W at A0 B0 ⊢
 have hB := hid B0.out
 clear B0
 have d0 := A0.out.cell 0
 have d1 := A0.out.cell 1
 have d2 := A0.out.cell 2
 have d3 := A0.out.cell 3
 have d4 := A0.out.cell 4
 have d5 := A0.out.cell 5
 simp only [List.getElem?_toArray, List.getElem?_cons_zero, List.getElem?_cons_succ] at d0 d1 d2 d3 d4 d5
 go_wp2
 go_ret
 exact ⟨rfl, hB.out⟩
set_option maxRecDepth 10000 in
set_option maxHeartbeats 4000000 in
theorem kind_null (b : Bool) (r t : ByteArray) (ko vo : Option Addr) (N kc M vc : Nat) (w : World) :
  Calls Tryz.prog 32 #[.agg #[.int .i64 1, .bool b, .string r, .string t, .slice ko N kc, .slice vo M vc]] w fun e w' => e = .returned (.iface 74 (.string ⟨#[110, 117, 108, 108]⟩)) ∧ Below w.heap.size w w' := by
 have A0 := hid (At.new w #[.int .i64 1, .bool b, .string r, .string t, .slice ko N kc, .slice vo M vc] 25)
 have B0 := hid (show Below w.heap.size w (w.alloc (.cells #[.int .i64 1, .bool b, .string r, .string t, .slice ko N kc, .slice vo M vc] 25)) from (Below.refl _ _).alloc (Nat.le_refl _) _)
 obtain ⟨p, hp⟩ : ∃ p, w.heap.size = p := ⟨_, rfl⟩
 rw [hp] at A0
 go_enter Tryz.func32, Tryz.ntmps32
 go_upto_region 1 with fail
 generalize w.alloc (.cells #[.int .i64 1, .bool b, .string r, .string t, .slice ko N kc, .slice vo M vc] 25) = W at A0 B0 ⊢
 have hB := hid B0.out
 clear B0
 have d0 := A0.out.cell 0
 have d1 := A0.out.cell 1
 have d2 := A0.out.cell 2
 have d3 := A0.out.cell 3
 have d4 := A0.out.cell 4
 have d5 := A0.out.cell 5
 simp only [List.getElem?_toArray, List.getElem?_cons_zero, List.getElem?_cons_succ] at d0 d1 d2 d3 d4 d5
 go_wp2
 go_ret
 exact ⟨rfl, hB.out⟩
theorem upon_method {P : Program} {o : Oper} {a : Act} {K : Act → World → Prop} {Q : Exit → Act → World → Prop} {n : Nat} {t : TypeId} {x v : Value} {nm : String} {w : World} {f : FuncId} (h : (method n t x nm).run P w = .ok (f, v) w) (g : Oper.upon P o a K Q ((callFunc f #[v]).run P w)) :
  Oper.upon P o a K Q (((method n t x nm).run P w).andThen fun a w' => (callFunc a.fst #[a.snd]).run P w') := by
 rw [h]
 exact g
set_option maxRecDepth 10000 in
set_option maxHeartbeats 4000000 in
theorem ends_word (s : ByteArray) (w : World) : Calls Tryz.prog 178 #[.string s] w fun e w' => e = .returned (.tuple #[.string ⟨#[]⟩, .string ⟨#[]⟩]) ∧ Below w.heap.size w w' := by
 go_enter Tryz.func178, Tryz.ntmps178
 go_wp2
 refine bodyPost_ret (v := .tuple #[.string ⟨#[]⟩, .string ⟨#[]⟩]) (by simp [results, Tryz.results178, go_sem]) rfl ⟨rfl, ?_⟩
 exact Below.refl _ _
set_option maxRecDepth 10000 in
set_option maxHeartbeats 4000000 in
theorem ends_quoted (s : ByteArray) (w : World) : Calls Tryz.prog 179 #[.string s] w fun e w' => e = .returned (.tuple #[.string ⟨#[34]⟩, .string ⟨#[34]⟩]) ∧ Below w.heap.size w w' := by
 go_enter Tryz.func179, Tryz.ntmps179
 go_wp2
 refine bodyPost_ret (v := .tuple #[.string ⟨#[34]⟩, .string ⟨#[34]⟩]) (by simp [results, Tryz.results179, go_sem]) rfl ⟨rfl, ?_⟩
 exact Below.refl _ _
set_option maxRecDepth 10000 in
set_option maxHeartbeats 4000000 in
theorem ends_elements (vo : Option Addr) (M vc : Nat) (w : World) : Calls Tryz.prog 180 #[.slice vo M vc] w fun e w' => e = .returned (.tuple #[.string ⟨#[91]⟩, .string ⟨#[93]⟩]) ∧ Below w.heap.size w w' := by
 go_enter Tryz.func180, Tryz.ntmps180
 go_wp2
 refine bodyPost_ret (v := .tuple #[.string ⟨#[91]⟩, .string ⟨#[93]⟩]) (by simp [results, Tryz.results180, go_sem]) rfl ⟨rfl, ?_⟩
 exact Below.refl _ _
set_option maxRecDepth 10000 in
set_option maxHeartbeats 4000000 in
theorem ends_members (ko vo : Option Addr) (N kc M vc : Nat) (w : World) : Calls Tryz.prog 181 #[.agg #[.slice ko N kc, .slice vo M vc]] w fun e w' => e = .returned (.tuple #[.string ⟨#[123]⟩, .string ⟨#[125]⟩]) ∧ Below w.heap.size w w' := by
 go_enter Tryz.func181, Tryz.ntmps181
 go_wp2
 refine bodyPost_ret (v := .tuple #[.string ⟨#[123]⟩, .string ⟨#[125]⟩]) (by simp [results, Tryz.results181, go_sem]) rfl ⟨rfl, ?_⟩
 repeat (first | with_reducible exact Below.refl _ _ | with_reducible refine Below.setCell ?_ (by first | (simp; done) | (simp; omega)) _ | with_reducible refine below_drewN ?_ _ | with_reducible refine Below.alloc ?_ (by first | (simp; done) | (simp; omega)) _ | with_reducible refine Below.drew ?_)
theorem wput_calls (m B : Nat) (cl ln : ByteArray) (ix : Int) (l : List UInt8) (s : ByteArray) (L : List UInt8) (hL : l ++ s.data.toList = L) (hm : m < B) (hn : L.length ≤ 140737488355328) (w : World) (h : WdI w m B cl ln ix l) (hB : B ≤ w.heap.size) :
  Calls Tryz.prog 47 #[.pointer (some ⟨m, 0, none⟩), .string s] w fun e w' => e = .returned (.tuple #[.int .i64 (s.size : Int), .nilIface]) ∧ WdI w' m B cl ln ix L ∧ WrF m w w' := by
 subst hL
 exact wstr_calls m B cl ln ix l s hm (by rw [List.length_append, Array.length_toList] at hn; exact hn) w h hB
theorem as_WW (s : ByteArray) (u : World) : (Instr.typeAssert (.iface 74 (.string s)) 54 74 true).run Tryz.prog u = .ok (.tuple #[.string s, .bool true]) u := by kernel_rfl
theorem as_QW (s : ByteArray) (u : World) : (Instr.typeAssert (.iface 75 (.string s)) 54 74 true).run Tryz.prog u = .ok (.tuple #[.string ⟨#[]⟩, .bool false]) u := by kernel_rfl
theorem as_QQ (s : ByteArray) (u : World) : (Instr.typeAssert (.iface 75 (.string s)) 54 75 true).run Tryz.prog u = .ok (.tuple #[.string s, .bool true]) u := by kernel_rfl
theorem as_EW (vo : Option Addr) (M vc : Nat) (u : World) : (Instr.typeAssert (.iface 77 (.slice vo M vc)) 54 74 true).run Tryz.prog u = .ok (.tuple #[.string ⟨#[]⟩, .bool false]) u := by kernel_rfl
theorem as_EQ (vo : Option Addr) (M vc : Nat) (u : World) : (Instr.typeAssert (.iface 77 (.slice vo M vc)) 54 75 true).run Tryz.prog u = .ok (.tuple #[.string ⟨#[]⟩, .bool false]) u := by kernel_rfl
theorem as_EE (vo : Option Addr) (M vc : Nat) (u : World) : (Instr.typeAssert (.iface 77 (.slice vo M vc)) 54 77 true).run Tryz.prog u = .ok (.tuple #[.slice vo M vc, .bool true]) u := by kernel_rfl
theorem as_MW (ko vo : Option Addr) (N kc M vc : Nat) (u : World) : (Instr.typeAssert (.iface 80 (.agg #[.slice ko N kc, .slice vo M vc])) 54 74 true).run Tryz.prog u = .ok (.tuple #[.string ⟨#[]⟩, .bool false]) u := by kernel_rfl
theorem as_MQ (ko vo : Option Addr) (N kc M vc : Nat) (u : World) : (Instr.typeAssert (.iface 80 (.agg #[.slice ko N kc, .slice vo M vc])) 54 75 true).run Tryz.prog u = .ok (.tuple #[.string ⟨#[]⟩, .bool false]) u := by kernel_rfl
theorem as_ME (ko vo : Option Addr) (N kc M vc : Nat) (u : World) : (Instr.typeAssert (.iface 80 (.agg #[.slice ko N kc, .slice vo M vc])) 54 77 true).run Tryz.prog u = .ok (.tuple #[.slice none 0 0, .bool false]) u := by kernel_rfl
theorem as_MM (ko vo : Option Addr) (N kc M vc : Nat) (u : World) : (Instr.typeAssert (.iface 80 (.agg #[.slice ko N kc, .slice vo M vc])) 54 80 true).run Tryz.prog u = .ok (.tuple #[.agg #[.slice ko N kc, .slice vo M vc], .bool true]) u := by kernel_rfl
set_option maxRecDepth 10000 in
set_option maxHeartbeats 4000000 in
theorem put_word (m B : Nat) (cl ln : ByteArray) (ix : Int) (l : List UInt8) (s : ByteArray) (L : List UInt8) (hL : l ++ s.data.toList = L) (d : Int) (hm : m < B) (hn : L.length ≤ 140737488355328) (w : World) (h : Hid (WdI w m B cl ln ix l)) (hB : B ≤ w.heap.size) :
  Calls Tryz.prog 31 #[.pointer (some ⟨m, 0, none⟩), .iface 74 (.string s), .int .i64 d] w fun e w' => e = .returned (.tuple #[]) ∧ WdI w' m B cl ln ix L ∧ WrF m w w' := by
 have hll : l.length ≤ 140737488355328 := by rw [← hL, List.length_append] at hn; omega
 have haW := as_WW
 have hen := hid (fun u => ends_word s u)
 have he : ∀ (args : Array Value) (u : World), (callFunc 178 args).run Tryz.prog u = .ok (.enter 178 args) u := fun _ _ => by kernel_rfl
 go_enter Tryz.func31, Tryz.ntmps31
 go_wp2_with fail
 refine upon_method (f := 178) (v := .string s) (by kernel_rfl) ?_
 rw [he]
 go_wp2_with fail
 refine Calls.mono (hen.out w) ?_
 rintro e w1 ⟨rfl, hb⟩
 have D1 := hid (h.out.kept hb)
 have F1 := hid (WrF.of_below hb (Nat.le_trans (Nat.le_of_lt hm) hB))
 have hB1 : B ≤ w1.heap.size := Nat.le_trans hB hb.size
 clear hen hb h he hB
 go_wp2_with fail
 refine Calls.mono (wput_calls m B cl ln ix _ ⟨#[]⟩ (l) (by simp) hm (hll) _ D1.out hB1) ?_
 rintro e w2 ⟨rfl, hd, hf⟩
 have hB2 : B ≤ w2.heap.size := Nat.le_trans hB1 hf.low.size
 have D2 := hid hd
 have F2 := hid (F1.out.trans hf)
 clear hd hf D1 F1 hB1
 go_wp2_with fail
 refine Calls.mono (wput_calls m B cl ln ix _ s (L) (hL) hm (hn) _ D2.out hB2) ?_
 rintro e w3 ⟨rfl, hd, hf⟩
 have hB3 : B ≤ w3.heap.size := Nat.le_trans hB2 hf.low.size
 have D3 := hid hd
 have F3 := hid (F2.out.trans hf)
 clear hd hf D2 F2 hB2
 go_wp2_with fail
 refine Calls.mono (wput_calls m B cl ln ix _ ⟨#[]⟩ (L) (by simp) hm (hn) _ D3.out hB3) ?_
 rintro e w4 ⟨rfl, hd, hf⟩
 have hB4 : B ≤ w4.heap.size := Nat.le_trans hB3 hf.low.size
 have D4 := hid hd
 have F4 := hid (F3.out.trans hf)
 clear hd hf D3 F3 hB3
 go_wp2
 go_end0
 exact ⟨rfl, D4.out, F4.out⟩
set_option maxRecDepth 10000 in
set_option maxHeartbeats 4000000 in
theorem put_quoted (m B : Nat) (cl ln : ByteArray) (ix : Int) (l : List UInt8) (s X : ByteArray) (L : List UInt8) (hL : l ++ (34 :: X.data.toList ++ [34]) = L) (d : Int) (hm : m < B) (hn : L.length ≤ 140737488355328) (hes : Hid (∀ u : World, ∃ E, Calls Tryz.prog 49 #[.string s] u fun e w' => e = .returned (.tuple #[.string X, .int .i64 E]) ∧ Below u.heap.size u w')) (w : World) (h : Hid (WdI w m B cl ln ix l)) (hB : B ≤ w.heap.size) :
  Calls Tryz.prog 31 #[.pointer (some ⟨m, 0, none⟩), .iface 75 (.string s), .int .i64 d] w fun e w' => e = .returned (.tuple #[]) ∧ WdI w' m B cl ln ix L ∧ WrF m w w' := by
 have hl1 : (l ++ [34]).length ≤ 140737488355328 := by rw [← hL] at hn; simp at hn ⊢; omega
 have hl2 : (l ++ 34 :: X.data.toList).length ≤ 140737488355328 := by rw [← hL] at hn; simp at hn ⊢; omega
 have haW := as_QW
 have haQ := as_QQ
 have hen := hid (fun u => ends_quoted s u)
 have he : ∀ (args : Array Value) (u : World), (callFunc 179 args).run Tryz.prog u = .ok (.enter 179 args) u := fun _ _ => by kernel_rfl
 go_enter Tryz.func31, Tryz.ntmps31
 go_wp2_with fail
 refine upon_method (f := 179) (v := .string s) (by kernel_rfl) ?_
 rw [he]
 go_wp2_with fail
 refine Calls.mono (hen.out w) ?_
 rintro e w1 ⟨rfl, hb⟩
 have D1 := hid (h.out.kept hb)
 have F1 := hid (WrF.of_below hb (Nat.le_trans (Nat.le_of_lt hm) hB))
 have hB1 : B ≤ w1.heap.size := Nat.le_trans hB hb.size
 clear hen hb h he hB
 go_wp2_with fail
 refine Calls.mono (wput_calls m B cl ln ix _ ⟨#[34]⟩ (l ++ [34]) (rfl) hm (hl1) _ D1.out hB1) ?_
 rintro e w2 ⟨rfl, hd, hf⟩
 have hB2 : B ≤ w2.heap.size := Nat.le_trans hB1 hf.low.size
 have D2 := hid hd
 have F2 := hid (F1.out.trans hf)
 clear hd hf D1 F1 hB1
 obtain ⟨E, hE⟩ := hes.out w2
 have hE' := hid hE
 clear hE hes
 go_wp2_with fail
 refine Calls.mono hE'.out ?_
 rintro e w5 ⟨rfl, hb⟩
 have D5 := hid (D2.out.kept hb)
 have F5 := hid (F2.out.trans (WrF.of_below hb (Nat.le_trans (Nat.le_of_lt hm) hB2)))
 have hB5 : B ≤ w5.heap.size := Nat.le_trans hB2 hb.size
 clear hb D2 F2 hB2 hE'
 go_wp2_with fail
 refine Calls.mono (wput_calls m B cl ln ix _ X (l ++ 34 :: X.data.toList) (by simp) hm (hl2) _ D5.out hB5) ?_
 rintro e w3 ⟨rfl, hd, hf⟩
 have hB3 : B ≤ w3.heap.size := Nat.le_trans hB5 hf.low.size
 have D3 := hid hd
 have F3 := hid (F5.out.trans hf)
 clear hd hf D5 F5 hB5
 go_wp2_with fail
 refine Calls.mono (wput_calls m B cl ln ix _ ⟨#[34]⟩ (L) (by rw [← hL]; simp) hm (hn) _ D3.out hB3) ?_
 rintro e w4 ⟨rfl, hd, hf⟩
 have hB4 : B ≤ w4.heap.size := Nat.le_trans hB3 hf.low.size
 have D4 := hid hd
 have F4 := hid (F3.out.trans hf)
 clear hd hf D3 F3 hB3
 go_wp2
 go_end0
 exact ⟨rfl, D4.out, F4.out⟩
end Go.Proofs.YtlhbgfhmcjaabaaGreatDoor
