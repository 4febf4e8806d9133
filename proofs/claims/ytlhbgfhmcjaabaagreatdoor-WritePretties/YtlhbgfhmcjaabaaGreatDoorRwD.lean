/-
 quarryref00.CopyTexts: the names in new memory.
-/
import Derived.Test.YtlhbgfhmcjaabaaGreatDoorTqF
import Derived.Deep.DeepCutAuto
namespace Go.Proofs.YtlhbgfhmcjaabaaGreatDoor
open Go.RowKit Go.Shelf
theorem wpList_keysR {ops : Array Oper} {rest : List Oper} {o : Oper} {a : Act} {Q : Exit → Act → World → Prop} {W : World} {x y : Operand} {B : Nat} {v : Value} {ks : List ByteArray} {u : ByteArray} (hgd : o.guard = none) (ho : o.op = .call { callee := .builtin .append, args := #[x, y], argTypes := #[22, 22] })
  (hx : a.eval x = v) (h : KeysG B W v ks) (hu : u.size ≤ capT) (ad : Addr) (c : Nat) (hy : a.eval y = .slice (some ad) 1 c) (hC : W.cell? (ad.add 0) = some (.string u)) (hn : ks.length < 1099511627776) (hB : B ≤ W.heap.size)
  (hr : ∀ v' W', KeysG B W' v' (ks ++ [u]) → W.grownBy W' v.ownBlock → wpList Tryz.prog ops Q rest (a.put o.dst v') W') : wpList Tryz.prog ops Q (o :: rest) a W := by
 refine wpList_plain hgd fun _ hK => ?_
 obtain ⟨v', W', hrun, h1, h2, -⟩ := h.app (ty := o.type) hu ad c hC hn hB
 unfold Oper.wp execOp
 simp only [ho, resolve, invoke, builtin, Sem.run_bind, Sem.run_pure, Result.andThen_ok, List.map_toArray, List.map_cons, List.map_nil, hx, hy, hrun]
 exact hK _ _ (hr v' W' h1 h2)
set_option maxRecDepth 10000 in
set_option maxHeartbeats 4000000 in
theorem copyT_calls (ks : List ByteArray) (ko : Option Addr) (kc : Nat) (hl : ks.length ≤ 1099511627776) (w : World) (hk : Hid (KeysAt w ko ks)) :
  Calls Tryz.prog 26 #[.slice ko ks.length kc] w fun e w' => ∃ v, e = .returned v ∧ KeysG w.heap.size w' v ks ∧ Below w.heap.size w w' := by
 obtain ⟨N, hN⟩ : ∃ N, Hid (ks.length = N) := ⟨_, rfl⟩
 have hNi : (N : Int) ≤ 1099511627776 := by rw [hN.out] at hl; omega
 rw [hN.out]
 go_enter Tryz.func26, Tryz.ntmps26
 go_wp2
 go_loopw [3, 4] (fun vv ii wr => ∃ q : Nat, q ≤ N ∧ ii = .int .i64 (q : Int) ∧ Hid (KeysG w.heap.size wr vv (ks.take q)) ∧ Hid (Below w.heap.size w wr)) (fun _ ii _ => N - (intOf ii).toNat)
 case atStart => exact ⟨0, Nat.zero_le _, rfl, hid (KeysG.nil _ _), hid (Below.refl _ _)⟩
 case round =>
  obtain ⟨q, hqN, rfl, hK, hB⟩ := hrel
  obtain ⟨so, cap, rfl⟩ := hK.out.shape
  have hlen : (ks.take q).length = q := by rw [List.length_take, hN.out]; omega
  rw [hlen] at hK
  by_cases hq : q < N
  ·have hqi : (q : Int) < (N : Int) := by omega
   obtain ⟨s, hs⟩ : ∃ s, ks[q]? = some s := ⟨_, List.getElem?_eq_getElem (by rw [hN.out]; exact hq)⟩
   obtain ⟨hsz, kb, koff, rfl, -, hkc⟩ := (hk.out.kept hB.out) q s hs
   have qz : Below wr.heap.size wr (wr.alloc (.cells #[.string s] 9)) := (Below.refl _ _).alloc (Nat.le_refl _) _
   have K2 := hid (hK.out.kept (SameOn.below qz))
   have B2 := hid (hB.out.trans (qz.mono hB.out.size))
   have hts : ks.take (q + 1) = ks.take q ++ [s] := by rw [List.take_add_one, hs]; rfl
   have hts' := hid hts
   clear hts qz hs
   rw [hlen]
   go_wp2_with (at_builtin; refine wpList_keysR rfl rfl rfl K2.out hsz ⟨wr.heap.size, 0, none⟩ 1 rfl (by simp [Addr.add]) (by rw [hlen]; omega) B2.out.size ?_; intro v' w' hk1 hg1; have K3 := hid hk1; have B3 := hid (B2.out.grown hg1 B2.out.size (fun b e => (K2.out.blk e).1)); clear hk1 hg1)
   go_roundw
   case rel => exact ⟨q + 1, by omega, by simp, by rw [hts'.out]; exact K3, B3⟩
   case measure => simp [intOf]; omega
  ·obtain rfl : q = N := by omega
   have htk : ks.take q = ks := by rw [← hN.out]; exact List.take_length
   rw [htk] at hK
   rw [hlen]
   go_wp2
   go_ret
   exact ⟨_, rfl, hK.out, hB.out⟩
end Go.Proofs.YtlhbgfhmcjaabaaGreatDoor
