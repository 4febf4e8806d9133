import Derived.Test.YtongedjlmohogaaGreatDoorPack7
import Derived.Test.YtongedjlmohogaaGreatDoorPyD
import Derived.Test.YtongedjlmohogaaGreatDoorPack21
import Derived.Test.YtongedjlmohogaaGreatDoorPack11
import Derived.Deep.DeepAppendRoom
namespace Go.Proofs.YtongedjlmohogaaGreatDoor
open Go.RowKit Go.Shelf
def GRow (W:World) (g cap:Nat) (way:List (List UInt8)):Prop:=W.ownsRow 0 9 1 (.slice (some ⟨g,0,none⟩) way.length cap) way.length (way.map fun x=>.string (mkL x))
def RelG (g n:Nat) (B:Nat) (X Y:World):Prop:=X.heap.size≤Y.heap.size∧(∀ k,k<B→k≠g→Y.heap[k]? = X.heap[k]?) ∧
 (∀ cs,X.heap[g]? = some (.cells cs 9 (0,0))→∃ cs',Y.heap[g]? = some (.cells cs' 9 (0,0))∧cs'.size=cs.size∧cs'.toList.take n=cs.toList.take n)∧Y.os=X.os∧Y.tape=X.tape∧Y.output=X.output
theorem RelG.trans {g n B:Nat} {X Y Z:World} (h:RelG g n B X Y) (h':RelG g n B Y Z):RelG g n B X Z :=
 ⟨Nat.le_trans h.1 h'.1,fun k hk hg=>(h'.2.1 k hk hg).trans (h.2.1 k hk hg),fun cs hc=>by
  obtain ⟨c1,h1,h2,h3⟩:=h.2.2.1 cs hc
  obtain ⟨c2,h4,h5,h6⟩:=h'.2.2.1 c1 h1
  exact ⟨c2,h4,h5.trans h2,h6.trans h3⟩,h'.2.2.2.1.trans h.2.2.2.1,h'.2.2.2.2.1.trans h.2.2.2.2.1,h'.2.2.2.2.2.trans h.2.2.2.2.2⟩
theorem RelG.below {g n B B':Nat} {X Y:World} (hb:Below B' X Y) (hB:B≤B') (hg:g<B'):RelG g n B X Y :=
 ⟨hb.size,fun k hk _=>hb.block k (by omega),fun cs hc=>⟨cs,(hb.block g hg).trans hc,rfl,rfl⟩,hb.os,hb.tape,hb.output⟩
theorem take_le {α:Type} {a b:List α} {m n:Nat} (h:a.take n=b.take n) (hm:m≤n):a.take m=b.take m:=by
 have:=congrArg (List.take m) h
 rwa [List.take_take,List.take_take,Nat.min_eq_left hm] at this
theorem RelG.mono {g n n' B B':Nat} {X Y:World} (h:RelG g n' B' X Y) (hn:n≤n') (hB:B≤B'):RelG g n B X Y :=
 ⟨h.1,fun k hk hg=>h.2.1 k (by omega) hg,fun cs hc=>by
  obtain ⟨c1,h1,h2,h3⟩:=h.2.2.1 cs hc
  exact ⟨c1,h1,h2,take_le h3 hn⟩,h.2.2.2⟩
theorem GRow.row {W W':World} {g cap:Nat} {way:List (List UInt8)} (h:GRow W g cap way) (hr:∀ cs,W.heap[g]? = some (.cells cs 9 (0,0))→∃ cs',W'.heap[g]? = some (.cells cs' 9 (0,0))∧cs'.size=cs.size∧cs'.toList.take way.length=cs.toList.take way.length):GRow W' g cap way:=by
 obtain ⟨h1,h2 | ⟨g',cap',cur,h3,h4,h5,h6,h7,h8,h9⟩⟩:=h
 ·cases h2.1
 ·simp only [Value.slice.injEq,Option.some.injEq,Addr.mk.injEq,and_true,true_and] at h3
  obtain ⟨rfl,rfl⟩:=h3
  obtain ⟨c1,k1,k2,k3⟩:=hr cur h5
  exact ⟨h1,.inr ⟨g,cap,c1,rfl,h4,k1,h6,h7,k2.trans h8,by rw [Nat.mul_one] at h9 ⊢;rw [k3];exact h9⟩⟩
theorem GRow.rel {W W':World} {g cap B:Nat} {way:List (List UInt8)} (h:GRow W g cap way) (hr:RelG g way.length B W W'):GRow W' g cap way:=h.row hr.2.2.1
theorem GRow.lt {W:World} {g cap:Nat} {way:List (List UInt8)} (h:GRow W g cap way):g<W.heap.size:=by
 obtain ⟨h1,h2 | ⟨g',cap',cur,h3,h4,h5,h6,h7,h8,h9⟩⟩:=h
 ·cases h2.1
 ·simp only [Value.slice.injEq,Option.some.injEq,Addr.mk.injEq,and_true,true_and] at h3
  obtain ⟨rfl,rfl⟩:=h3
  exact (Array.getElem?_eq_some_iff.1 h5).1
theorem GRow.keys {W:World} {g cap:Nat} {way:List (List UInt8)} (h:GRow W g cap way) (hl:∀ x ∈ way,x.length≤capT):KeysAt W (some ⟨g,0,none⟩) (way.map mkL):=fun i s hi=>by
 have hlt:=h.lt
 obtain ⟨h1,h2 | ⟨g',cap',cur,h3,h4,h5,h6,h7,h8,h9⟩⟩:=h
 ·cases h2.1
 ·simp only [Value.slice.injEq,Option.some.injEq,Addr.mk.injEq,and_true,true_and] at h3
  obtain ⟨rfl,rfl⟩:=h3
  rw [List.getElem?_map] at hi
  cases hw:way[i]? with
  | none=>rw [hw] at hi;cases hi
  | some x =>
   rw [hw] at hi
   cases hi
   refine ⟨by rw [mkL_size];exact hl x (List.mem_of_getElem? hw),g,0,rfl,hlt,?_⟩
   have:(cur.toList.take (way.length*1))[i]? = some (.string (mkL x)):=by rw [h9,List.getElem?_map,hw];rfl
   rw [List.getElem?_take] at this
   split at this
   ·rw [Array.getElem?_toList] at this
    simp only [World.cell?,h5,Nat.zero_add]
    exact this
   ·cases this
theorem RelG.down {g n B:Nat} {X Y:World} (h:RelG g n B X Y) (hg:B≤g):Below B X Y:=⟨h.2.2.2.1,h.2.2.2.2.1,h.2.2.2.2.2,h.1,fun k hk=>h.2.1 k hk (by omega)⟩
theorem GRow.push {W:World} {g cap B:Nat} {way:List (List UInt8)} {x:List UInt8} {ty:TypeId} (h:GRow W g cap way) (hc:way.length<cap) (hB:B≤W.heap.size) (ad:Addr) (c:Nat) (hC:W.cell? (ad.add 0)=some (.string (mkL x))) :
  ∃ W',(Builtin.append_ #[56,56] ty #[.slice (some ⟨g,0,none⟩) way.length cap,.slice (some ad) 1 c]).run Tryz.prog W = .ok (.slice (some ⟨g,0,none⟩) (way.length+1) cap) W'∧GRow W' g cap (way++[x])∧RelG g way.length B W W'∧W.grownBy W' (some g):=by
 obtain ⟨ti,hi1,-,hi2,-⟩:=info_partsV infoST
 obtain ⟨W',hr,hown,hg⟩:=run_append_own_spare (P:=Tryz.prog) W 0 56 ty 9 ti 1 Tryz.underlying56 hi1 hi2 g way.length cap _ h ad 1 c [.string (mkL x)] rfl (fun j u hj=>by
  cases j with
  | zero=>simp at hj;subst hj;exact hC
  | succ j=>simp at hj) (by simp [Value.oneCell']) (by omega)
 refine ⟨W',hr,by unfold GRow;rw [List.length_append,List.map_append];exact hown,⟨hg.size,fun k hk hkg=>?_,fun cs hcs=>?_,hg.os,hg.tape,hg.output⟩,hg⟩
 ·by_cases hl:k<W.heap.size
  ·exact hg.block k hl (fun e=>hkg (by injection e))
  ·omega
 ·have h0:=h
  obtain ⟨h1,h2 | ⟨g',cap',cur,h3,h4,h5,h6,h7,h8,h9⟩⟩:=h
  ·cases h2.1
  ·simp only [Value.slice.injEq,Option.some.injEq,Addr.mk.injEq,and_true,true_and] at h3
   obtain ⟨rfl,rfl⟩:=h3
   rw [h5] at hcs
   cases hcs
   obtain ⟨k1,k2 | ⟨g',cap',cur',k3,k4,k5,k6,k7,k8,k9⟩⟩:=hown
   ·cases k2.1
   ·simp only [Value.slice.injEq,Option.some.injEq,Addr.mk.injEq,and_true,true_and] at k3
    obtain ⟨rfl,rfl⟩:=k3
    refine ⟨cur',k5,k8.trans h8.symm,?_⟩
    rw [Nat.mul_one] at h9 k9
    have:=congrArg (List.take way.length) k9
    rw [List.take_take,Nat.min_eq_left (Nat.le_succ _)] at this
    rw [this,h9,List.take_append_of_le_length (by simp)]
    rw [List.take_of_length_le (by simp)]
theorem sameSix {S:Nat→Prop} {w:World} {b:Nat} {y0 y1 y2 y3 y4 y5:Value} (hS:∀ c,S c→c≠b):SameOn S w ((((((w.setCell ⟨b,0,none⟩ y0).setCell ⟨b,1,none⟩ y1).setCell ⟨b,2,none⟩ y2).setCell ⟨b,3,none⟩ y3).setCell ⟨b,4,none⟩ y4).setCell ⟨b,5,none⟩ y5) :=
 ⟨by simp,fun c hc _=>by
  have h:=hS c hc
  rw [Below.heap_setCell _ _ _ _ h,Below.heap_setCell _ _ _ _ h,Below.heap_setCell _ _ _ _ h,Below.heap_setCell _ _ _ _ h,Below.heap_setCell _ _ _ _ h,Below.heap_setCell _ _ _ _ h]⟩
set_option maxRecDepth 10000 in
set_option maxHeartbeats 4000000 in
theorem copied_calls (t:Vt) (hwf:wfV t 1024=true) (hln:lnV t) (k:Int) (b:Bool) (rr tx:ByteArray) (ko:Option Addr) (N kc:Nat) (vo:Option Addr) (M vc:Nat) (w:World) (hT:TabU w) (ha:ValAt w t (.agg #[.int .i64 k,.bool b,.string rr,.string tx,.slice ko N kc,.slice vo M vc])) :
  Calls Tryz.prog 43 #[.agg #[.int .i64 k,.bool b,.string rr,.string tx,.slice ko N kc,.slice vo M vc]] w fun e w'=>∃ v,e = .returned (.tuple #[v,.bool true])∧ValOn (fun b=>w.heap.size≤b) w' t v∧Below w.heap.size w w':=by
 have hf:=hid (fun (u:World) (h1:TabU u) h2=>find_calls t hln [] (by decide) (.agg #[.int .i64 k,.bool b,.string rr,.string tx,.slice ko N kc,.slice vo M vc]) u h1 h2)
 have hF:fdF t []=(t,true,0):=by
  unfold fdF
  rw [if_pos hwf]
  rfl
 rw [hF] at hf
 have hf':Hid (∀ (u:World),TabU u→ValAt u t (.agg #[.int .i64 k,.bool b,.string rr,.string tx,.slice ko N kc,.slice vo M vc])→Calls Tryz.prog 73 #[.agg #[.int .i64 k,.bool b,.string rr,.string tx,.slice ko N kc,.slice vo M vc],.string ⟨#[]⟩] u fun e w'=>FdQ (t,true,0) u e w'):=hf
 have A0:=hid (At.new w #[.int .i64 k,.bool b,.string rr,.string tx,.slice ko N kc,.slice vo M vc] 59)
 have B0:=hid (show Below w.heap.size w (w.alloc (.cells #[.int .i64 k,.bool b,.string rr,.string tx,.slice ko N kc,.slice vo M vc] 59)) from (Below.refl _ w).alloc (Nat.le_refl _) _)
 obtain ⟨W1,hW1⟩:∃ W,w.alloc (.cells #[.int .i64 k,.bool b,.string rr,.string tx,.slice ko N kc,.slice vo M vc] 59)=W:=⟨_,rfl⟩
 rw [hW1] at A0 B0
 have hs1:Hid (W1.heap.size=w.heap.size+1):=hid (by rw [← hW1,World.size_alloc])
 have Z0:=hid (At.new W1 #[.int .i64 0,.bool false,.string ⟨#[]⟩,.string ⟨#[]⟩,.slice none 0 0,.slice none 0 0] 59)
 obtain ⟨W2,hW2⟩:∃ W,W1.alloc (.cells #[.int .i64 0,.bool false,.string ⟨#[]⟩,.string ⟨#[]⟩,.slice none 0 0,.slice none 0 0] 59)=W:=⟨_,rfl⟩
 have A1:Hid (At W2 w.heap.size #[.int .i64 k,.bool b,.string rr,.string tx,.slice ko N kc,.slice vo M vc] 59):=hid (by rw [← hW2];exact A0.out.alloc _)
 rw [hW2] at Z0
 have B1:Hid (Below w.heap.size w W2):=hid (by rw [← hW2];exact B0.out.alloc (by rw [hs1.out];omega) _)
 have hV:=hid ha
 have hT':=hid hT
 have hs2:Hid (w.heap.size+2≤W2.heap.size):=hid (by rw [← hW2,World.size_alloc,hs1.out];omega)
 clear hf hF ha hT A0 B0 hwf hln
 go_enter Tryz.func43,Tryz.ntmps43
 go_wp2_with (first | refine wpList_load_want 59 _ w.heap.size 0 [.int .i64 k,.bool b,.string rr,.string tx,.slice ko N kc,.slice vo M vc] _ (A1.out.range rfl) Tryz.underlying59 sizeVl rfl rfl rfl (by rfl) ?_ | fail)
 refine Calls.mono (hf'.out _ (hT'.out.below B1.out) (hV.out.kept B1.out)) ?_
 rintro e w3 ⟨x,rfl,vx,b3⟩
 obtain ⟨k1,b1,r1,t1,ko1,N1,kc1,vo1,M1,vc1,rfl⟩:=vx.at.lets
 have Z3:=hid (Z0.out.keptAll b3)
 have B3:=hid (B1.out.trans (b3.mono B1.out.size))
 have s3:=hid (Nat.le_trans hs2.out b3.size)
 have V3:=hid (vx.mono (S':=fun c=>w.heap.size+2≤c) (fun c _ hc=>Nat.le_trans hs2.out hc))
 clear hf' vx b3 A1 Z0 B1 hW2 hW1 hs2
 have N4:=hid (At.new w3 #[.int .i64 k1,.bool b1,.string r1,.string t1,.slice ko1 N1 kc1,.slice vo1 M1 vc1] 59)
 have Z4:=hid (Z3.out.alloc (.cells #[.int .i64 k1,.bool b1,.string r1,.string t1,.slice ko1 N1 kc1,.slice vo1 M1 vc1] 59))
 have B4:=hid (show Below w.heap.size w (w3.alloc (.cells #[.int .i64 k1,.bool b1,.string r1,.string t1,.slice ko1 N1 kc1,.slice vo1 M1 vc1] 59)) from B3.out.alloc B3.out.size _)
 have V4:=hid (V3.out.keptB (show Below w3.heap.size w3 (w3.alloc (.cells #[.int .i64 k1,.bool b1,.string r1,.string t1,.slice ko1 N1 kc1,.slice vo1 M1 vc1] 59)) from (Below.refl _ _).alloc (Nat.le_refl _) _))
 obtain ⟨q,hq⟩:∃ q,w3.heap.size=q:=⟨_,rfl⟩
 rw [hq] at N4
 go_upto_region 2 with fail
 generalize w3.alloc (.cells #[.int .i64 k1,.bool b1,.string r1,.string t1,.slice ko1 N1 kc1,.slice vo1 M1 vc1] 59)=W4 at N4 Z4 B4 V4 ⊢
 have hB4:=hid B4.out
 have d0:=N4.out.cell 0
 have d1:=N4.out.cell 1
 have d2:=N4.out.cell 2
 have d3:=N4.out.cell 3
 have d4:=N4.out.cell 4
 have d5:=N4.out.cell 5
 have e0:=Z4.out.cell 0
 have e1:=Z4.out.cell 1
 have e2:=Z4.out.cell 2
 have e3:=Z4.out.cell 3
 have e4:=Z4.out.cell 4
 have e5:=Z4.out.cell 5
 have g0:=Z4.out.frozen 0
 have g1:=Z4.out.frozen 1
 have g2:=Z4.out.frozen 2
 have g3:=Z4.out.frozen 3
 have g4:=Z4.out.frozen 4
 have g5:=Z4.out.frozen 5
 simp only [List.getElem?_toArray,List.getElem?_cons_zero,List.getElem?_cons_succ] at d0 d1 d2 d3 d4 d5 e0 e1 e2 e3 e4 e5
 go_wp2
 refine ret_val2 rfl rfl (Z4.out.six) rfl rfl ?_
 refine ⟨_,rfl,?_,below_six hB4.out (by have:=hs1.out;omega) _ _ _ _ _ _⟩
 refine (V4.out.kept (S':=fun c=>w.heap.size+2≤c) (fun _ _ h=>h) (sameSix (fun c hc=>by have:=hs1.out;have hc':w.heap.size+2≤c:=hc;omega))).mono (fun c _ hc=>by show w.heap.size≤c;have hc':w.heap.size+2≤c:=hc;omega)
set_option maxRecDepth 10000 in
set_option maxHeartbeats 4000000 in
theorem taken_obj (b:Bool) (rr tx:ByteArray) (ko:Option Addr) (N kc:Nat) (vo:Option Addr) (M vc:Nat) (tt:TypeId) (vv:Value) (w:World) :
  Calls Tryz.prog 76 #[.agg #[.int .i64 6,.bool b,.string rr,.string tx,.slice ko N kc,.slice vo M vc],.iface tt vv] w fun e w'=>e = .returned (.func (.func 113) #[] #[.pointer (some ⟨w.heap.size+1,0,none⟩),.pointer (some ⟨w.heap.size+1+1,0,none⟩)]) ∧
   At w' (w.heap.size+1) #[.int .i64 6,.bool b,.string rr,.string tx,.slice ko N kc,.slice vo M vc] 59∧At w' (w.heap.size+1+1) #[.iface tt vv] 43∧Below w.heap.size w w':=by
 have hmf:∀ (fn:Fn) (first cap:Array Value) (w:World),(Instr.makeFunc fn first cap).run Tryz.prog w = .ok (.func fn first cap) w:=fun _ _ _ _=>rfl
 go_enter Tryz.func76,Tryz.ntmps76
 go_wp2
 go_ret
 refine ⟨rfl,?_,?_,by exact bw⟩
 ·exact (At.newAt _ _ (by simp only [World.size_alloc])).alloc _
 ·exact At.newAt _ _ (by simp only [World.size_alloc])
set_option maxRecDepth 10000 in
set_option maxHeartbeats 4000000 in
theorem taken_arr (k:Int) (hk:(k == 6)=false) (b:Bool) (rr tx:ByteArray) (ko:Option Addr) (N kc:Nat) (vo:Option Addr) (M vc:Nat) (tt:TypeId) (vv:Value) (w:World) :
  Calls Tryz.prog 76 #[.agg #[.int .i64 k,.bool b,.string rr,.string tx,.slice ko N kc,.slice vo M vc],.iface tt vv] w fun e w'=>e = .returned (.func (.func 114) #[] #[.pointer (some ⟨w.heap.size+1,0,none⟩),.pointer (some ⟨w.heap.size+1+1,0,none⟩)]) ∧
   At w' (w.heap.size+1) #[.int .i64 k,.bool b,.string rr,.string tx,.slice ko N kc,.slice vo M vc] 59∧At w' (w.heap.size+1+1) #[.iface tt vv] 43∧Below w.heap.size w w':=by
 have hmf:∀ (fn:Fn) (first cap:Array Value) (w:World),(Instr.makeFunc fn first cap).run Tryz.prog w = .ok (.func fn first cap) w:=fun _ _ _ _=>rfl
 go_enter Tryz.func76,Tryz.ntmps76
 go_wp2
 go_ret
 refine ⟨rfl,?_,?_,by exact bw⟩
 ·exact (At.newAt _ _ (by simp only [World.size_alloc])).alloc _
 ·exact At.newAt _ _ (by simp only [World.size_alloc])
set_option maxRecDepth 10000 in
set_option maxHeartbeats 4000000 in
theorem found_calls (k:Int) (b:Bool) (rr tx:ByteArray) (ko:Option Addr) (N kc:Nat) (vo:Option Addr) (M vc:Nat) (so:Option Addr) (sn sc:Nat) (wo:Option Addr) (wn wc:Nat) (w:World) :
  Calls Tryz.prog 47 #[.agg #[.int .i64 k,.bool b,.string rr,.string tx,.slice ko N kc,.slice vo M vc],.slice so sn sc,.slice wo wn wc] w fun e w'=>e = .returned (.func (.func 74) #[] #[.pointer (some ⟨w.heap.size+1,0,none⟩),.pointer (some ⟨w.heap.size,0,none⟩),.pointer (some ⟨w.heap.size+1+1,0,none⟩)]) ∧
   At w' w.heap.size #[.int .i64 k,.bool b,.string rr,.string tx,.slice ko N kc,.slice vo M vc] 59∧At w' (w.heap.size+1) #[.slice so sn sc] 82∧At w' (w.heap.size+1+1) #[.slice wo wn wc] 56∧w'.heap.size=w.heap.size+3∧Below w.heap.size w w':=by
 have hmf:∀ (fn:Fn) (first cap:Array Value) (w:World),(Instr.makeFunc fn first cap).run Tryz.prog w = .ok (.func fn first cap) w:=fun _ _ _ _=>rfl
 go_enter Tryz.func47,Tryz.ntmps47
 go_wp2
 go_ret
 refine ⟨rfl,?_,?_,?_,by simp only [World.size_alloc],by exact bw⟩
 ·exact ((At.new _ _ _).alloc _).alloc _
 ·exact (At.newAt _ _ (by simp only [World.size_alloc])).alloc _
 ·exact At.newAt _ _ (by simp only [World.size_alloc])
end Go.Proofs.YtongedjlmohogaaGreatDoor
