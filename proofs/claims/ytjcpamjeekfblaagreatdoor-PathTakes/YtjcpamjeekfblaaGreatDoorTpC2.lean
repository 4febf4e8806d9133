import Derived.Test.YtjcpamjeekfblaaGreatDoorPack1
import Derived.Test.YtjcpamjeekfblaaGreatDoorPack3
namespace Go.Proofs.YtjcpamjeekfblaaGreatDoor
open Go.RowKit Go.Shelf
theorem ofS_err (s:ByteArray):(ofS s).2=0∨(ofS s).2=110∨(ofS s).2=111:=by
 unfold ofS
 split
 ·unfold readS
  split
  ·exact .inr (.inl rfl)
  ·unfold worthS
   repeat' split
   all_goals first | exact .inl rfl | exact .inr (.inr rfl)
 ·exact .inr (.inl rfl)
set_option maxRecDepth 10000 in
set_option maxHeartbeats 4000000 in
theorem formP_0 (k:Int) (hk:k≠1∧k≠2∧k≠3∧k≠4∧k≠5∧k≠6) (b:Bool) (r t:ByteArray) (ko:Option Addr) (N kc:Nat) (vo:Option Addr) (M vc:Nat) (l:Int) (w:World) :
  Calls Tryz.prog 108 #[.agg #[.int .i64 k,.bool b,.string r,.string t,.slice ko N kc,.slice vo M vc],.int .i64 l] w fun e w'=>e = .returned (.bool false)∧Below w.heap.size w w':=by
 obtain ⟨k1,k2,k3,k4,k5,k6⟩:=hk
 have e1:(k == 1)=false:=by simp [k1]
 have e2:(k == 2)=false:=by simp [k2]
 have e3:(k == 3)=false:=by simp [k3]
 have e4:(k == 4)=false:=by simp [k4]
 have e5:(k == 5)=false:=by simp [k5]
 have e6:(k == 6)=false:=by simp [k6]
 go_enter Tryz.func108,Tryz.ntmps108
 go_wp2
 all_goals go_ret
 all_goals (exact ⟨rfl,by exact bw⟩)
set_option maxRecDepth 10000 in
set_option maxHeartbeats 4000000 in
theorem formP_1 (b:Bool) (r t:ByteArray) (ko:Option Addr) (N kc:Nat) (vo:Option Addr) (M vc:Nat) (l:Int) (w:World) (B:Bool) (hB:Hid (bareB b r t N M=B)) :
  Calls Tryz.prog 108 #[.agg #[.int .i64 1,.bool b,.string r,.string t,.slice ko N kc,.slice vo M vc],.int .i64 l] w fun e w'=>e = .returned (.bool B)∧Below w.heap.size w w':=by
 have hbc:=hid (fun u=>bare_calls 1 b r t ko N kc vo M vc B hB u)
 have B1:=hid (show Below w.heap.size w (w.alloc (.cells #[.int .i64 1,.bool b,.string r,.string t,.slice ko N kc,.slice vo M vc] 59)) by exact bw)
 clear hB
 go_enter Tryz.func108,Tryz.ntmps108
 go_wp2_with fail
 refine Calls.mono (hbc.out _) ?_
 rintro e w1 ⟨rfl,hb⟩
 have B2:=hid (belowC B1.out hb)
 clear hb hbc B1
 go_wp2
 go_ret
 exact ⟨rfl,B2.out⟩
set_option maxRecDepth 10000 in
set_option maxHeartbeats 4000000 in
theorem formP_2 (b:Bool) (r t:ByteArray) (ko:Option Addr) (N kc:Nat) (vo:Option Addr) (M vc:Nat) (l:Int) (w:World) (B:Bool) (hB:Hid (bareB false r t N M=B)) :
  Calls Tryz.prog 108 #[.agg #[.int .i64 2,.bool b,.string r,.string t,.slice ko N kc,.slice vo M vc],.int .i64 l] w fun e w'=>e = .returned (.bool B)∧Below w.heap.size w w':=by
 have hbc:=hid (fun u=>bare_calls 2 false r t ko N kc vo M vc B hB u)
 have B1:=hid (show Below w.heap.size w (w.alloc (.cells #[.int .i64 2,.bool false,.string r,.string t,.slice ko N kc,.slice vo M vc] 59)) by exact bw)
 clear hB
 go_enter Tryz.func108,Tryz.ntmps108
 go_wp2_with fail
 refine Calls.mono (hbc.out _) ?_
 rintro e w1 ⟨rfl,hb⟩
 have B2:=hid (belowC B1.out hb)
 clear hb hbc B1
 go_wp2
 go_ret
 exact ⟨rfl,B2.out⟩
set_option maxRecDepth 10000 in
set_option maxHeartbeats 4000000 in
theorem formP_3 (b:Bool) (r t:ByteArray) (ko:Option Addr) (N kc:Nat) (vo:Option Addr) (M vc:Nat) (l:Int) (w:World) (hr:r.size≤281474976710656) (V:Bool) (hV:Hid (decide ((ofS r).2≠110)=V)) (B:Bool) (hB:Hid (bareB b ⟨#[]⟩ t N M=B)) :
  Calls Tryz.prog 108 #[.agg #[.int .i64 3,.bool b,.string r,.string t,.slice ko N kc,.slice vo M vc],.int .i64 l] w fun e w'=>e = .returned (.bool (V && B))∧Below w.heap.size w w':=by
 have hbc:=hid (fun u=>bare_calls 3 b ⟨#[]⟩ t ko N kc vo M vc B hB u)
 obtain ⟨q,hq⟩:∃ q,ofS r=q:=⟨_,rfl⟩
 obtain ⟨⟨dn,dd,dx⟩,e2⟩:=q
 have hV2:((e2:Int) != 110)=V:=by
  rw [← hV.out,hq,Bool.eq_iff_iff]
  simp
  omega
 have hof:=hid (fun u=>ofD_calls r hr u)
 have hov:=hid (show ofV r = .tuple #[.agg #[.bool dn,.string ⟨dd.toArray⟩,.int .i64 dx],.int .i64 (e2:Int)] by rw [ofV,hq];rfl)
 rw [hov.out] at hof
 generalize (⟨dd.toArray⟩:ByteArray)=TD at hof
 clear hov hq hr hB hV
 have A1:=hid (At.new w #[.int .i64 3,.bool b,.string r,.string t,.slice ko N kc,.slice vo M vc] 59)
 have B1:=hid (show Below w.heap.size w (w.alloc (.cells #[.int .i64 3,.bool b,.string r,.string t,.slice ko N kc,.slice vo M vc] 59)) by exact bw)
 go_enter Tryz.func108,Tryz.ntmps108
 go_wp2_with fail
 generalize w.alloc (.cells #[.int .i64 3,.bool b,.string r,.string t,.slice ko N kc,.slice vo M vc] 59)=W at A1 B1 ⊢
 refine Calls.mono (hof.out _) ?_
 rintro e w1 ⟨rfl,hb⟩
 have A2:=hid ((A1.out.keptAll hb).alloc (.cells #[.bool dn,.string TD,.int .i64 dx] 170))
 have B2:=hid (show Below w.heap.size w (w1.alloc (.cells #[.bool dn,.string TD,.int .i64 dx] 170)) from (belowC B1.out hb).alloc (belowC B1.out hb).size _)
 clear hof hb A1 B1
 go_upto_region 9 with fail
 generalize w1.alloc (.cells #[.bool dn,.string TD,.int .i64 dx] 170)=W2 at A2 B2 ⊢
 have hlt:=A2.out.lt
 have c2:W2.cell? ⟨w.heap.size,2,none⟩=some (.string r):=A2.out.cell 2
 have f2:=A2.out.frozen 2
 have A3:=hid (show At _ w.heap.size #[.int .i64 3,.bool b,.string ⟨#[]⟩,.string t,.slice ko N kc,.slice vo M vc] 59 from A2.out.set 2 (.string ⟨#[]⟩))
 have B3:=hid (show Below w.heap.size w (W2.setCell ⟨w.heap.size,2,none⟩ (.string ⟨#[]⟩)) from B2.out.setCell (Nat.le_refl _) _)
 clear A2 B2
 go_upto_region 10 with fail
 generalize W2.setCell ⟨w.heap.size,2,none⟩ (.string ⟨#[]⟩)=W3 at A3 B3 ⊢
 have c0:=A3.out.cell 0
 have c1:=A3.out.cell 1
 have c2:=A3.out.cell 2
 have c3:=A3.out.cell 3
 have c4:=A3.out.cell 4
 have c5:=A3.out.cell 5
 simp only [List.getElem?_toArray,List.getElem?_cons_zero,List.getElem?_cons_succ] at c0 c1 c2 c3 c4 c5
 cases V with
 | false =>
  clear hbc
  go_wp2
  go_ret
  exact ⟨by simp,B3.out⟩
 | true =>
  go_wp2_with fail
  refine Calls.mono (hbc.out _) ?_
  rintro e w5 ⟨rfl,hb⟩
  have B4:=hid (belowC B3.out hb)
  clear hb hbc B3 c0 c1 c2 c3 c4 c5
  go_wp2
  go_ret
  exact ⟨by simp,B4.out⟩
set_option maxRecDepth 10000 in
set_option maxHeartbeats 4000000 in
theorem formP_4 (b:Bool) (r t:ByteArray) (ko:Option Addr) (N kc:Nat) (vo:Option Addr) (M vc:Nat) (l:Int) (w:World) (ht:t.size≤9223372036854775807) (hT:TabU w) (V:Bool) (hV:Hid (decide (badOf t = -1)=V)) (B:Bool) (hB:Hid (bareB b r ⟨#[]⟩ N M=B)) :
  Calls Tryz.prog 108 #[.agg #[.int .i64 4,.bool b,.string r,.string t,.slice ko N kc,.slice vo M vc],.int .i64 l] w fun e w'=>e = .returned (.bool (V && B))∧Below w.heap.size w w':=by
 have hbc:=hid (fun u=>bare_calls 4 b r ⟨#[]⟩ ko N kc vo M vc B hB u)
 have A1:=hid (At.new w #[.int .i64 4,.bool b,.string r,.string t,.slice ko N kc,.slice vo M vc] 59)
 have B1:=hid (show Below w.heap.size w (w.alloc (.cells #[.int .i64 4,.bool b,.string r,.string t,.slice ko N kc,.slice vo M vc] 59)) by exact bw)
 have hof:=hid (validS_calls t ht V hV _ (hT.below B1.out))
 clear hB hV hT ht
 go_enter Tryz.func108,Tryz.ntmps108
 go_wp2_with fail
 generalize w.alloc (.cells #[.int .i64 4,.bool b,.string r,.string t,.slice ko N kc,.slice vo M vc] 59)=W at A1 B1 hof ⊢
 refine Calls.mono hof.out ?_
 rintro e w1 ⟨rfl,hb⟩
 have A2:=hid (A1.out.keptAll hb)
 have B2:=hid (belowC B1.out hb)
 clear hof hb A1 B1
 have hlt:=A2.out.lt
 have c3:w1.cell? ⟨w.heap.size,3,none⟩=some (.string t):=A2.out.cell 3
 have f3:=A2.out.frozen 3
 have A3:=hid (show At _ w.heap.size #[.int .i64 4,.bool b,.string r,.string ⟨#[]⟩,.slice ko N kc,.slice vo M vc] 59 from A2.out.set 3 (.string ⟨#[]⟩))
 have B3:=hid (show Below w.heap.size w (w1.setCell ⟨w.heap.size,3,none⟩ (.string ⟨#[]⟩)) from B2.out.setCell (Nat.le_refl _) _)
 clear A2 B2
 go_upto_region 14 with fail
 generalize w1.setCell ⟨w.heap.size,3,none⟩ (.string ⟨#[]⟩)=W3 at A3 B3 ⊢
 have c0:=A3.out.cell 0
 have c1:=A3.out.cell 1
 have c2:=A3.out.cell 2
 have c3:=A3.out.cell 3
 have c4:=A3.out.cell 4
 have c5:=A3.out.cell 5
 simp only [List.getElem?_toArray,List.getElem?_cons_zero,List.getElem?_cons_succ] at c0 c1 c2 c3 c4 c5
 cases V with
 | false =>
  clear hbc
  go_wp2
  go_ret
  exact ⟨by simp,B3.out⟩
 | true =>
  go_wp2_with fail
  refine Calls.mono (hbc.out _) ?_
  rintro e w5 ⟨rfl,hb⟩
  have B4:=hid (belowC B3.out hb)
  clear hb hbc B3 c0 c1 c2 c3 c4 c5
  go_wp2
  go_ret
  exact ⟨by simp,B4.out⟩
set_option maxRecDepth 10000 in
set_option maxHeartbeats 4000000 in
theorem formP_5 (b:Bool) (r t:ByteArray) (ko:Option Addr) (N kc:Nat) (vo:Option Addr) (M vc:Nat) (l:Int) (w:World) (V:Bool) (hof:Hid (∀ u,Below w.heap.size w u→Calls Tryz.prog 129 #[.slice vo M vc,.int .i64 l] u fun e w'=>e = .returned (.bool V)∧Below u.heap.size u w')) (B:Bool) (hB:Hid (bareB b r t N 0=B)) :
  Calls Tryz.prog 108 #[.agg #[.int .i64 5,.bool b,.string r,.string t,.slice ko N kc,.slice vo M vc],.int .i64 l] w fun e w'=>e = .returned (.bool (V && B))∧Below w.heap.size w w':=by
 have hbc:=hid (fun u=>bare_calls 5 b r t ko N kc none 0 0 B hB u)
 have A1:=hid (At.new w #[.int .i64 5,.bool b,.string r,.string t,.slice ko N kc,.slice vo M vc] 59)
 have B1:=hid (show Below w.heap.size w (w.alloc (.cells #[.int .i64 5,.bool b,.string r,.string t,.slice ko N kc,.slice vo M vc] 59)) by exact bw)
 clear hB
 go_enter Tryz.func108,Tryz.ntmps108
 go_wp2_with fail
 generalize w.alloc (.cells #[.int .i64 5,.bool b,.string r,.string t,.slice ko N kc,.slice vo M vc] 59)=W at A1 B1 ⊢
 refine Calls.mono (hof.out _ B1.out) ?_
 rintro e w1 ⟨rfl,hb⟩
 have A2:=hid (A1.out.keptAll hb)
 have B2:=hid (belowC B1.out hb)
 clear hof hb A1 B1
 have hlt:=A2.out.lt
 have o5:w1.cell? ⟨w.heap.size,5,none⟩=some (.slice vo M vc):=A2.out.cell 5
 have f5:=A2.out.frozen 5
 have A3:=hid (show At _ w.heap.size #[.int .i64 5,.bool b,.string r,.string t,.slice ko N kc,.slice none 0 0] 59 from A2.out.set 5 (.slice none 0 0))
 have B3:=hid (show Below w.heap.size w (w1.setCell ⟨w.heap.size,5,none⟩ (.slice none 0 0)) from B2.out.setCell (Nat.le_refl _) _)
 clear A2 B2
 go_upto_region 18 with fail
 generalize w1.setCell ⟨w.heap.size,5,none⟩ (.slice none 0 0)=W3 at A3 B3 ⊢
 have c0:=A3.out.cell 0
 have c1:=A3.out.cell 1
 have c2:=A3.out.cell 2
 have c3:=A3.out.cell 3
 have c4:=A3.out.cell 4
 have c5:=A3.out.cell 5
 simp only [List.getElem?_toArray,List.getElem?_cons_zero,List.getElem?_cons_succ] at c0 c1 c2 c3 c4 c5
 cases V with
 | false =>
  clear hbc
  go_wp2
  go_ret
  exact ⟨by simp,B3.out⟩
 | true =>
  go_wp2_with fail
  refine Calls.mono (hbc.out _) ?_
  rintro e w5 ⟨rfl,hb⟩
  have B4:=hid (belowC B3.out hb)
  clear hb hbc B3 c0 c1 c2 c3 c4 c5
  go_wp2
  go_ret
  exact ⟨by simp,B4.out⟩
set_option maxRecDepth 10000 in
set_option maxHeartbeats 4000000 in
theorem formP_6 (b:Bool) (r t:ByteArray) (ko:Option Addr) (N kc:Nat) (vo:Option Addr) (M vc:Nat) (l:Int) (w:World) (hN:N≤capT) (hM:M≤capT) (KB:Bool) (hok:Hid (∀ u,Below w.heap.size w u→Calls Tryz.prog 130 #[.slice ko N kc] u fun e w'=>e = .returned (.bool KB)∧Below u.heap.size u w')) (V:Bool) (hof:Hid (∀ u,Below w.heap.size w u→Calls Tryz.prog 129 #[.slice vo M vc,.int .i64 l] u fun e w'=>e = .returned (.bool V)∧Below u.heap.size u w')) (B:Bool) (hB:Hid (bareB b r t 0 0=B)) :
  Calls Tryz.prog 108 #[.agg #[.int .i64 6,.bool b,.string r,.string t,.slice ko N kc,.slice vo M vc],.int .i64 l] w fun e w'=>e = .returned (.bool ((decide (N=M) && (KB && V)) && B))∧Below w.heap.size w w':=by
 have hbc:=hid (fun u=>bare_calls 6 b r t none 0 0 none 0 0 B hB u)
 have A1:=hid (At.new w #[.int .i64 6,.bool b,.string r,.string t,.slice ko N kc,.slice vo M vc] 59)
 have B1:=hid (show Below w.heap.size w (w.alloc (.cells #[.int .i64 6,.bool b,.string r,.string t,.slice ko N kc,.slice vo M vc] 59)) by exact bw)
 have hNi:(N:Int)≤140737488351232:=by unfold capT at hN;omega
 have hMi:(M:Int)≤140737488351232:=by unfold capT at hM;omega
 obtain ⟨Z,hZ⟩:∃ Z,Hid ((decide (N=M) && (KB && V))=Z):=⟨_,rfl⟩
 rw [hZ.out]
 clear hB hN hM
 go_enter Tryz.func108,Tryz.ntmps108
 go_upto_region 20 with fail
 generalize w.alloc (.cells #[.int .i64 6,.bool b,.string r,.string t,.slice ko N kc,.slice vo M vc] 59)=W at A1 B1 ⊢
 go_cut [9] from 61 to 78 (fun c wx=>c = .bool Z∧Hid (At wx w.heap.size #[.int .i64 6,.bool b,.string r,.string t,.slice ko N kc,.slice vo M vc] 59)∧Hid (Below w.heap.size w wx))
 case first =>
  have c4:W.cell? ⟨w.heap.size,4,none⟩=some (.slice ko N kc):=A1.out.cell 4
  have c5:W.cell? ⟨w.heap.size,5,none⟩=some (.slice vo M vc):=A1.out.cell 5
  by_cases hNM:N=M
  ·have e1:((N:Int) == (M:Int))=true:=by simp [hNM]
   have hz1:Hid (Z=(KB && V)):=by show _=_;rw [← hZ.out,decide_eq_true hNM];rfl
   clear hNM hZ
   go_wp2_with fail
   refine Calls.mono (hok.out _ B1.out) ?_
   rintro e w1 ⟨rfl,hb⟩
   have A2:=hid (A1.out.keptAll hb)
   have B2:=hid (belowC B1.out hb)
   clear hok hb A1 B1 c4 c5
   have c4:w1.cell? ⟨w.heap.size,4,none⟩=some (.slice ko N kc):=A2.out.cell 4
   have c5:w1.cell? ⟨w.heap.size,5,none⟩=some (.slice vo M vc):=A2.out.cell 5
   cases KB with
   | false =>
    go_wp2
    go_meet
    case rel=>exact ⟨by rw [hz1.out] <;> simp,A2,B2⟩
   | true =>
    go_wp2_with fail
    refine Calls.mono (hof.out _ B2.out) ?_
    rintro e w2 ⟨rfl,hb⟩
    have A3:=hid (A2.out.keptAll hb)
    have B3:=hid (belowC B2.out hb)
    clear hof hb A2 B2 c4 c5
    go_wp2
    go_meet
    case rel=>exact ⟨by rw [hz1.out] <;> simp,A3,B3⟩
  ·have e1:((N:Int) == (M:Int))=false:=by simp;omega
   have hz1:Hid (Z=false):=by show _=_;rw [← hZ.out,decide_eq_false hNM];rfl
   clear hNM hZ
   go_wp2
   go_meet
   case rel=>exact ⟨by rw [hz1.out] <;> simp,A1,B1⟩
 case rest =>
  obtain ⟨rfl,A2,B2⟩:=hcut
  clear A1 B1 hok hof hZ
  have hlt:=A2.out.lt
  have f4:=A2.out.frozen 4
  have f5:=A2.out.frozen 5
  have o4:wc.cell? ⟨w.heap.size,4,none⟩=some (.slice ko N kc):=A2.out.cell 4
  have o5:wc.cell? ⟨w.heap.size,5,none⟩=some (.slice vo M vc):=A2.out.cell 5
  have A3:=hid (show At _ w.heap.size #[.int .i64 6,.bool b,.string r,.string t,.slice none 0 0,.slice none 0 0] 59 from (A2.out.set 4 (.slice none 0 0)).set 5 (.slice none 0 0))
  have B3:=hid (show Below w.heap.size w ((wc.setCell ⟨w.heap.size,4,none⟩ (.slice none 0 0)).setCell ⟨w.heap.size,5,none⟩ (.slice none 0 0)) from (B2.out.setCell (Nat.le_refl _) _).setCell (Nat.le_refl _) _)
  clear A2 B2
  go_upto_region 22 with fail
  generalize (wc.setCell ⟨w.heap.size,4,none⟩ (.slice none 0 0)).setCell ⟨w.heap.size,5,none⟩ (.slice none 0 0)=W3 at A3 B3 ⊢
  have c0:=A3.out.cell 0
  have c1:=A3.out.cell 1
  have c2:=A3.out.cell 2
  have c3:=A3.out.cell 3
  have c4:=A3.out.cell 4
  have c5:=A3.out.cell 5
  simp only [List.getElem?_toArray,List.getElem?_cons_zero,List.getElem?_cons_succ] at c0 c1 c2 c3 c4 c5
  cases Z with
  | false =>
   clear hbc
   go_wp2
   go_ret
   exact ⟨by simp,B3.out⟩
  | true =>
   go_wp2_with fail
   refine Calls.mono (hbc.out _) ?_
   rintro e w5 ⟨rfl,hb⟩
   have B4:=hid (belowC B3.out hb)
   clear hb hbc B3 c0 c1 c2 c3 c4 c5
   go_wp2
   go_ret
   exact ⟨by simp,B4.out⟩
theorem bare_plain {b:Bool} {r t:ByteArray} {N M:Nat} (_:Int):bareB b r t N M=(decide (N=0) && (decide (M=0) && (!b && ((r.toList == []) && (t.toList == []))))):=by
 unfold bareB
 generalize (r.toList == [])=x
 generalize (t.toList == [])=y
 generalize decide (N=0)=z
 generalize decide (M=0)=u
 cases b <;> cases x <;> cases y <;> cases z <;> cases u <;> rfl
set_option maxHeartbeats 4000000 in
theorem formP_ex:∀ (n:Nat) (t:Vt),SizeOf.sizeOf t≤n→∀ (l:Int),0≤l→l≤1024→∀ (va:Value) (w:World),TabU w→ValAt w t va →
  Calls Tryz.prog 108 #[va,.int .i64 l] w fun e w'=>e = .returned (.bool (wfV t l))∧Below w.heap.size w w':=by
 intro n
 induction n with
 | zero =>
  intro t hs
  cases t
  simp at hs
 | succ n ih =>
  intro t hs l hl1 hl2 va w hT ha
  cases ha with
  | mk k b r t ks vs ko kc vo vc X hw hzz hk hr hv =>
  obtain ⟨z1,z2,z3,z4⟩:=hzz
  have e0:(ByteArray.toList ⟨#[]⟩ == ([]:List UInt8))=true:=by first | decide +kernel | simp
  have hkids:Hid (∀ B,(!decide (l=0) && wfL vs (l-1))=B→∀ u,Below w.heap.size w u→Calls Tryz.prog 129 #[.slice vo vs.length vc,.int .i64 l] u fun e w'=>e = .returned (.bool B)∧Below u.heap.size u w'):=fun B hB u hu =>
   kidsF_of vs l hl1 hl2 (fun x i hx va' w' hT' hx' hlp=>ih x (by have:=kid_size (k:=k) (b:=b) (r:=r) (t:=t) (ks:=ks) hx;omega) (l-1) (by omega) (by omega) va' w' hT' hx') vo vs.length vc rfl z4 X u (hT.below hu) (hr.kept hu) (fun i x hx=>(hv i x hx).kept hu) B hB
  have hwf:wfV (.mk k b r t ks vs) l=(plainV (.mk k b r t ks vs) && (!(decide (k=5∨k=6) && decide (l=0)) && wfL vs (l-1))):=by
   conv=>lhs;unfold wfV
  have hnone:(k≠5∧k≠6)→wfV (.mk k b r t ks vs) l=plainV (.mk k b r t ks vs):=fun ⟨a1,a2⟩=>by
   rw [hwf,decide_eq_false (show ¬ (k=5∨k=6) by omega)]
   cases hp:plainV (.mk k b r t ks vs) with
   | false=>rfl
   | true =>
    have:=plain_kids hp (by omega)
    rw [List.length_eq_zero_iff.1 this]
    simp [wfL]
  by_cases h1:k=1
  ·subst h1
   refine (formP_1 b r t ko ks.length kc vo vs.length vc l w _ (hid rfl)).mono ?_
   rintro e w' ⟨rfl,hb⟩
   exact ⟨by rw [hnone (by decide),bare_plain 1];rfl,hb⟩
  by_cases h2:k=2
  ·subst h2
   refine (formP_2 b r t ko ks.length kc vo vs.length vc l w _ (hid rfl)).mono ?_
   rintro e w' ⟨rfl,hb⟩
   exact ⟨by rw [hnone (by decide),bare_plain 2];rfl,hb⟩
  by_cases h3:k=3
  ·subst h3
   refine (formP_3 b r t ko ks.length kc vo vs.length vc l w (by unfold capT at z1;omega) _ (hid rfl) _ (hid rfl)).mono ?_
   rintro e w' ⟨rfl,hb⟩
   refine ⟨?_,hb⟩
   rw [hnone (by decide),bare_plain 3,e0]
   have hoe:decide ((ofS r).2≠110)=(decide ((ofS r).2=0) || decide ((ofS r).2=111)):=by
    rcases ofS_err r with h | h | h <;> rw [h] <;> rfl
   rw [hoe]
   show _=_
   unfold plainV
   simp only [show ¬ (3:Int)=1 by decide,show ¬ (3:Int)=2 by decide,if_false,if_true]
   generalize (decide ((ofS r).2=0) || decide ((ofS r).2=111))=x
   generalize (t.toList == [])=y
   generalize decide (ks.length=0)=z
   generalize decide (vs.length=0)=u
   cases b <;> cases x <;> cases y <;> cases z <;> cases u <;> rfl
  by_cases h4:k=4
  ·subst h4
   refine (formP_4 b r t ko ks.length kc vo vs.length vc l w (by unfold capT at z2;omega) hT _ (hid rfl) _ (hid rfl)).mono ?_
   rintro e w' ⟨rfl,hb⟩
   refine ⟨?_,hb⟩
   rw [hnone (by decide),bare_plain 4,e0]
   unfold plainV
   simp only [show ¬ (4:Int)=1 by decide,show ¬ (4:Int)=2 by decide,show ¬ (4:Int)=3 by decide,if_false,if_true]
   generalize decide (badOf t = -1)=x
   generalize (r.toList == [])=y
   generalize decide (ks.length=0)=z
   generalize decide (vs.length=0)=u
   cases b <;> cases x <;> cases y <;> cases z <;> cases u <;> rfl
  by_cases h5:k=5
  ·subst h5
   refine (formP_5 b r t ko ks.length kc vo vs.length vc l w _ (hid (hkids.out _ rfl)) _ (hid rfl)).mono ?_
   rintro e w' ⟨rfl,hb⟩
   refine ⟨?_,hb⟩
   rw [hwf,bare_plain 5]
   unfold plainV
   simp only [show ¬ (5:Int)=1 by decide,show ¬ (5:Int)=2 by decide,show ¬ (5:Int)=3 by decide,show ¬ (5:Int)=4 by decide,if_false,if_true,true_or,decide_true,Bool.true_and]
   generalize wfL vs (l-1)=x
   generalize (r.toList == [])=y
   generalize (t.toList == [])=v
   generalize decide (ks.length=0)=z
   generalize decide (l=0)=u
   cases b <;> cases x <;> cases y <;> cases z <;> cases u <;> cases v <;> rfl
  by_cases h6:k=6
  ·subst h6
   refine (formP_6 b r t ko ks.length kc vo vs.length vc l w z3 z4 _ (hid fun u hu=>keysF_calls ks ko ks.length kc (hid rfl) z3 _ (hid rfl) u (hid (hT.below hu)) (hid (hk.kept hu))) _ (hid (hkids.out _ rfl)) _ (hid rfl)).mono ?_
   rintro e w' ⟨rfl,hb⟩
   refine ⟨?_,hb⟩
   rw [hwf,bare_plain 6]
   unfold plainV
   simp only [show ¬ (6:Int)=1 by decide,show ¬ (6:Int)=2 by decide,show ¬ (6:Int)=3 by decide,show ¬ (6:Int)=4 by decide,show ¬ (6:Int)=5 by decide,if_false,if_true,or_true,decide_true,Bool.true_and]
   generalize wfL vs (l-1)=x
   generalize (r.toList == [])=y
   generalize (t.toList == [])=v
   generalize decide (ks.length=vs.length)=z
   generalize decide (l=0)=u
   generalize allB ks=a
   cases b <;> cases x <;> cases y <;> cases z <;> cases u <;> cases v <;> cases a <;> rfl
  refine (formP_0 k ⟨h1,h2,h3,h4,h5,h6⟩ b r t ko ks.length kc vo vs.length vc l w).mono ?_
  rintro e w' ⟨rfl,hb⟩
  refine ⟨?_,hb⟩
  rw [hnone ⟨h5,h6⟩]
  unfold plainV
  simp only [h1,h2,h3,h4,h5,h6,if_false]
set_option maxRecDepth 10000 in
set_option maxHeartbeats 4000000 in
theorem formedP_calls (t:Vt) (va:Value) (w:World) (hT:TabU w) (ha:ValAt w t va) :
  Calls Tryz.prog 90 #[va] w fun e w'=>e = .returned (Value.bool (wfV t 1024))∧Below w.heap.size w w':=by
 have hc:=hid (fun u hu1 hu=>formP_ex _ t (Nat.le_refl _) 1024 (by decide) (by decide) va u hu1 hu)
 generalize Value.bool (wfV t 1024)=B at hc ⊢
 have ha':=hid ha
 cases ha with
 | mk k b r t ks vs ko kc vo vc X hw hzz hk hr hv =>
 clear hw hzz hk hr hv
 generalize ks.length=N at *
 generalize vs.length=M at *
 have B1:Hid (Below w.heap.size w (w.alloc (.cells #[.int .i64 k,.bool b,.string r,.string t,.slice ko N kc,.slice vo M vc] 59))):=(Below.refl _ w).alloc (Nat.le_refl _) _
 have hT':=hid (hT.below B1.out)
 clear hT
 go_enter Tryz.func90,Tryz.ntmps90
 go_wp2_with fail
 generalize w.alloc (.cells #[.int .i64 k,.bool b,.string r,.string t,.slice ko N kc,.slice vo M vc] 59)=W at B1 hT' ⊢
 refine Calls.mono (hc.out W hT'.out (ha'.out.kept B1.out)) ?_
 rintro e w1 ⟨rfl,hb⟩
 have hb':=hid (belowC B1.out hb)
 clear hb hc B1 ha' hT'
 go_wp2
 go_ret
 exact ⟨rfl,hb'.out⟩
end Go.Proofs.YtjcpamjeekfblaaGreatDoor
