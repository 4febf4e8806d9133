/-
  Texts of mine that others lean on, one behind the other.
-/
import Derived.Test.YtongedjlmohogaaGreatDoorPack7
import Derived.Test.YtongedjlmohogaaGreatDoorPack18
import Derived.Lib.ItoaNum
import Derived.Shelf.Strings.Search2
import Derived.Test.YtongedjlmohogaaGreatDoorProg
import Derived.KernelRfl
import Derived.Test.YtongedjlmohogaaGreatDoorPack15
import Derived.Test.YtongedjlmohogaaGreatDoorPack10
import Derived.Lib.IndexBytes
import Derived.Test.YtongedjlmohogaaGreatDoorPack11
import Derived.Deep.DeepCutAuto
namespace Go.Proofs.YtongedjlmohogaaGreatDoor
open Go.ChangeShapes Go.WideShapes Go.ChangeAt Go.RowKit
set_option maxRecDepth 100000
theorem bulk_snoc {H:Type} (ds:List (DataW H)) (d:DataW H):Rows.uptoBulkAll (ds++[d])=Rows.uptoBulkAll ds+Rows.uptoBulk d:=by
 induction ds with
 | nil=>simp [Rows.uptoBulkAll]
 | cons a ds ih=>simp only [List.cons_append,Rows.uptoBulkAll,ih];omega
section
variable {H:Type} {enc:TypeId × Value→H} {w:World} {base:Nat} {spare:Nat→Bool} {held:Bool}
end
end Go.Proofs.YtongedjlmohogaaGreatDoor

namespace Go.Proofs.YtongedjlmohogaaGreatDoor
open Go.RowKit Go.Shelf
def stpK (k:Int) (ks:List ByteArray) (i:Nat):List UInt8:=if k=5 then Lib.itoa (i:Int) else wrN ((ks[i]?).getD ⟨#[]⟩).data.toList
mutual
def prV (p:List UInt8):Vt→List (List UInt8 × Vt)
 | .mk k b r t ks vs=>(p,.mk k b r t ks vs) :: prL p k ks 0 vs
def prL (p:List UInt8) (k:Int) (ks:List ByteArray):Nat→List Vt→List (List UInt8 × Vt)
 | _,[]=>[]
 | i,v :: vs=>prV (p++[47]++stpK k ks i) v++prL p k ks (i+1) vs
end
theorem prL_app (p:List UInt8) (k:Int) (ks:List ByteArray):∀ (a b:List Vt) (i:Nat),prL p k ks i (a++b)=prL p k ks i a++prL p k ks (i+a.length) b
 | [],b,i=>by simp [prL]
 | v :: a,b,i=>by
  rw [List.cons_append,prL,prL,prL_app p k ks a b (i+1),List.length_cons,show i+1+a.length=i+(a.length+1) by omega]
  exact (List.append_assoc _ _ _).symm
def PartAt (L:List (List UInt8 × Vt)) (r:Nat) (M:List (List UInt8 × Vt)):Prop:=∀ (i:Nat) (x:List UInt8 × Vt),M[i]? = some x→L[r+i]? = some x
theorem PartAt.head {L:List (List UInt8 × Vt)} {r:Nat} {p:List UInt8} {k:Int} {b:Bool} {rw' t:ByteArray} {ks:List ByteArray} {vs:List Vt} (h:PartAt L r (prV p (.mk k b rw' t ks vs))):L[r]? = some (p,.mk k b rw' t ks vs):=by
 have:=h 0 (p,.mk k b rw' t ks vs) (by rw [prV];rfl)
 simpa using this
theorem PartAt.kid {L:List (List UInt8 × Vt)} {r:Nat} {p:List UInt8} {k:Int} {b:Bool} {rw' t:ByteArray} {ks:List ByteArray} {vs:List Vt} (h:PartAt L r (prV p (.mk k b rw' t ks vs))) {i:Nat} {u:Vt} (hu:vs[i]? = some u) :
  PartAt L (r+1+(prL p k ks 0 (vs.take i)).length) (prV (p++[47]++stpK k ks i) u):=by
 intro j x hx
 have:=h (1+(prL p k ks 0 (vs.take i)).length+j) x ?_
 ·rw [← this];congr 1;omega
 ·rw [prV,show 1+(prL p k ks 0 (vs.take i)).length+j=((prL p k ks 0 (vs.take i)).length+j)+1 by omega,List.getElem?_cons_succ]
  have e:vs=vs.take i++(u :: vs.drop (i+1)):=by
   conv=>lhs;rw [← List.take_append_drop i vs,List.drop_eq_getElem_cons (List.getElem?_eq_some_iff.1 hu).1,(List.getElem?_eq_some_iff.1 hu).2]
  have hi:i<vs.length:=(List.getElem?_eq_some_iff.1 hu).1
  have hl:(vs.take i).length=i:=by rw [List.length_take];omega
  have e2:prL p k ks 0 vs=prL p k ks 0 (vs.take i)++(prV (p++[47]++stpK k ks i) u++prL p k ks (i+1) (vs.drop (i+1))):=by
   conv=>lhs;rw [e,prL_app,hl,Nat.zero_add,prL]
  have hj:j<(prV (p++[47]++stpK k ks i) u).length:=(List.getElem?_eq_some_iff.1 hx).1
  rw [e2,List.getElem?_append_right (by omega),show (prL p k ks 0 (vs.take i)).length+j-(prL p k ks 0 (vs.take i)).length=j by omega,List.getElem?_append_left hj]
  exact hx
mutual
def okP:Vt→Prop
 | .mk k _ _ _ ks vs=>(∀ i,i<vs.length→k=5∨(k≠5∧∃ s,ks[i]? = some s∧s.size≤2147483640))∧vs.length≤1099511627776∧okPL vs
def okPL:List Vt→Prop
 | []=>True
 | v :: vs=>okP v∧okPL vs
end
theorem okPL_get:∀ {vs:List Vt} {i:Nat} {u:Vt},okPL vs→vs[i]? = some u→okP u
 | [],i,u,_,h=>by simp at h
 | v :: vs,i,u,hs,h=>by
  unfold okPL at hs
  cases i with
  | zero=>simp at h;subst h;exact hs.1
  | succ i=>exact okPL_get hs.2 (by simpa using h)
end Go.Proofs.YtongedjlmohogaaGreatDoor

namespace Go.Proofs
open Go.Shelf
def Tryz.lays219_ren:Go.Shelf.Ren:=⟨fun | 219=>159 | 217=>177 | 225=>178 | 224=>179 | 267=>180 | 266=>197 | 314=>198 | n=>n,fun | 9=>9 | 3=>3 | 4=>4 | 5=>5 | 46=>116 | 146=>218 | 51=>154 | n=>n,fun | 1=>5 | n=>n⟩
theorem Tryz.lays219:Go.Proofs.Lays.n219 Tryz.prog Tryz.lays219_ren:={
  mixed:=by kernel_rfl
  f217:=Tryz.func177.trans (congrArg some (by kernel_rfl))
  f219:=Tryz.func159.trans (congrArg some (by kernel_rfl))
  f224:=Tryz.func179.trans (congrArg some (by kernel_rfl))
  f225:=Tryz.func178.trans (congrArg some (by kernel_rfl))
  f266:=Tryz.func197.trans (congrArg some (by kernel_rfl))
  f267:=Tryz.func180.trans (congrArg some (by kernel_rfl))
  f314:=Tryz.func198.trans (congrArg some (by kernel_rfl))
  t3:=Tryz.underlying3
  a3:=Tryz.isAgg3
  z3:=Tryz.sizeOf3
  v3:=Tryz.zeroValue3
  t4:=Tryz.underlying4
  a4:=Tryz.isAgg4
  z4:=Tryz.sizeOf4
  v4:=Tryz.zeroValue4
  t5:=Tryz.underlying5
  a5:=Tryz.isAgg5
  z5:=Tryz.sizeOf5
  v5:=Tryz.zeroValue5
  t9:=Tryz.underlying9
  a9:=Tryz.isAgg9
  z9:=Tryz.sizeOf9
  v9:=Tryz.zeroValue9
  t46:=Tryz.underlying116
  a46:=Tryz.isAgg116
  z46:=Tryz.sizeOf116
  v46:=Tryz.zeroValue116
  t51:=Tryz.underlying154
  a51:=Tryz.isAgg154
  z51:=Tryz.sizeOf154
  v51:=Tryz.zeroValue154
  t146:=Tryz.underlying218
  a146:=Tryz.isAgg218
  z146:=Tryz.sizeOf218
  v146:=Tryz.zeroValue218
  g1:=by kernel_rfl }
end Go.Proofs

namespace Go.Proofs.YtongedjlmohogaaGreatDoor
open Go.RowKit Go.Shelf
def mkL (l:List UInt8):ByteArray:=⟨l.toArray⟩
theorem mkL_data (s:ByteArray):mkL s.data.toList=s:=by unfold mkL;simp
theorem mkL_size (l:List UInt8):(mkL l).size=l.length:=by show l.toArray.size=_;simp
theorem data_mkL (l:List UInt8):(mkL l).data.toList=l:=by unfold mkL;simp
theorem mkL_ext (l:List UInt8) (a b:Nat):(mkL l).extract a b=mkL ((l.drop a).take (b-a)):=by
 apply ByteArray.ext
 apply Array.toList_inj.1
 rw [ByteArray.data_extract,Array.toList_extract]
 rfl
theorem lk_mkL (l:List UInt8) (i:Nat) (x:UInt8) (h:l[i]? = some x):lk (mkL l) i=x.toNat:=by
 have hi:i<l.length:=(List.getElem?_eq_some_iff.1 h).1
 rw [lk_at _ i (by rw [mkL_size];exact hi)]
 congr 1
 have h2:=(List.getElem?_eq_some_iff.1 h).2
 exact h2
theorem idx_no:∀ (l:List UInt8) (c:UInt8),(∀ x ∈ l,x≠c)→Lib.indexByte l c = -1
 | [],_,_=>rfl
 | b :: l,c,h=>by
  have h1:(b == c)=false:=beq_eq_false_iff_ne.2 (h b (by simp))
  have h2:=idx_no l c (fun x hx=>h x (by simp [hx]))
  unfold Lib.indexByte
  rw [h1,h2]
  rfl
theorem idx_yes:∀ (a:List UInt8) (c:UInt8) (r:List UInt8),(∀ x ∈ a,x≠c)→Lib.indexByte (a++c :: r) c=(a.length:Int)
 | [],c,r,_=>by
  show Lib.indexByte (c :: r) c=0
  unfold Lib.indexByte
  rw [beq_self_eq_true]
  rfl
 | b :: a,c,r,h=>by
  have h1:(b == c)=false:=beq_eq_false_iff_ne.2 (h b (by simp))
  have h2:=idx_yes a c r (fun x hx=>h x (by simp [hx]))
  rw [List.cons_append]
  unfold Lib.indexByte
  rw [h1,h2]
  have h3:((a.length:Int) == -1)=false:=beq_eq_false_iff_ne.2 (by omega)
  rw [h3]
  simp
theorem first_til:∀ l:List UInt8,(∀ x ∈ l,x≠126)∨∃ a r,l=a++126 :: r∧∀ x ∈ a,x≠126
 | []=>.inl (fun x h=>by simp at h)
 | b :: l=>by
  by_cases hb:b=126
  ·exact .inr ⟨[],l,by simp [hb],fun x h=>by simp at h⟩
  ·rcases first_til l with h | ⟨a,r,rfl,h⟩
   ·exact .inl (fun x hx=>by
     simp at hx
     rcases hx with rfl | hx
     ·exact hb
     ·exact h x hx)
   ·exact .inr ⟨b :: a,r,rfl,fun x hx=>by
     simp at hx
     rcases hx with rfl | hx
     ·exact hb
     ·exact h x hx⟩
theorem mnL_pre:∀ (a:List UInt8),(∀ x ∈ a,x≠126)→∀ t,mnL (a++t)=(mnL t).map (a ++ ·)
 | [],_,t=>by cases h:mnL t <;> simp [h]
 | b :: a,h,t=>by
  rw [List.cons_append,mnL_plain (h b (by simp)),mnL_pre a (fun x hx=>h x (by simp [hx])) t]
  cases mnL t <;> rfl
set_option maxRecDepth 10000 in
set_option maxHeartbeats 2000000 in
theorem cutS_no (l:List UInt8) (h:∀ x ∈ l,x≠126) (w:World):Calls Tryz.prog 147 #[.string (mkL l),.string ⟨#[126]⟩] w fun e w'=>e = .returned (.tuple #[.string (mkL l),.string (mkL []),.bool false])∧w'=w:=by
 have c1:=hid (fun u:World=>Any.stringslite_Index_one Tryz.lays219 (mkL l) 126 u)
 have hi:=idx_no l 126 h
 have hi':Lib.indexByte (mkL l).data.toList 126 = -1:=by rw [data_mkL];exact hi
 rw [hi'] at c1
 clear hi hi' h
 obtain ⟨s,hs⟩:∃ s,mkL l=s:=⟨_,rfl⟩
 rw [hs] at c1 ⊢
 clear hs
 go_enter Tryz.func147,Tryz.ntmps147
 go_wp2_with fail
 refine Calls.mono (c1.out _) ?_
 rintro e w1 ⟨rfl,rfl⟩
 go_wp2
 go_ret3
 exact ⟨rfl,rfl⟩
set_option maxRecDepth 10000 in
set_option maxHeartbeats 2000000 in
theorem cutS_yes (a r:List UInt8) (hl:(a++126 :: r).length≤4294967296) (h:∀ x ∈ a,x≠126) (w:World):Calls Tryz.prog 147 #[.string (mkL (a++126 :: r)),.string ⟨#[126]⟩] w fun e w'=>e = .returned (.tuple #[.string (mkL a),.string (mkL r),.bool true])∧Below w.heap.size w w':=by
 have c1:=hid (fun u:World=>Any.stringslite_Index_one Tryz.lays219 (mkL (a++126 :: r)) 126 u)
 have hi':Lib.indexByte (mkL (a++126 :: r)).data.toList 126=(a.length:Int):=by rw [data_mkL];exact idx_yes a 126 r h
 rw [hi'] at c1
 clear hi' h
 have e1:(mkL (a++126 :: r)).extract 0 a.length=mkL a:=by rw [mkL_ext];simp
 have e2:(mkL (a++126 :: r)).extract (a.length+1) (mkL (a++126 :: r)).size=mkL r:=by
  rw [mkL_ext,mkL_size]
  congr 1
  rw [List.take_of_length_le (by simp;omega)]
  simp
 have hz:(mkL (a++126 :: r)).size=a.length+1+r.length:=by rw [mkL_size];simp;omega
 obtain ⟨s,hs⟩:∃ s,mkL (a++126 :: r)=s:=⟨_,rfl⟩
 rw [hs] at c1 e1 e2 hz ⊢
 obtain ⟨n,hn⟩:∃ n,a.length=n:=⟨_,rfl⟩
 rw [hn] at c1 e1 e2 hz
 have e1':=hid e1
 have e2':=hid e2
 have c2:(n:Int)≤(s.size:Int):=by omega
 have c3:(n:Int)+1≤(s.size:Int):=by omega
 have c5:IntKind.i64.wrap ((n:Int)+1)=(n:Int)+1:=wrap_small _ (by omega) (by simp at hl;omega)
 have c6:(0:Int)≤(n:Int)+1:=by omega
 have c7:((n:Int)+1).toNat=n+1:=by omega
 have c4:(s.size:Int)≤4294967296:=by rw [hz];simp at hl;omega
 clear hs hn e1 e2 hz hl
 go_enter Tryz.func147,Tryz.ntmps147
 go_wp2_with fail
 refine Calls.mono (c1.out _) ?_
 rintro e w1 ⟨rfl,rfl⟩
 go_wp2
 have mixed:Tryz.prog.follows .mixedOrders=true:=by kernel_rfl
 go_region_o
 go_wp2
 go_ret3
 exact ⟨by rw [← e1'.out,← e2'.out];rfl,(Below.refl _ _).drew⟩
set_option maxRecDepth 10000 in
theorem cutT_no (l:List UInt8) (h:∀ x ∈ l,x≠126) (w:World):Calls Tryz.prog 131 #[.string (mkL l),.string ⟨#[126]⟩] w fun e w'=>e = .returned (.tuple #[.string (mkL l),.string (mkL []),.bool false])∧Below w.heap.size w w':=by
 have c1:=hid (fun u:World=>cutS_no l h u)
 clear h
 go_enter Tryz.func131,Tryz.ntmps131
 go_wp2_with fail
 refine Calls.mono (c1.out _) ?_
 rintro e w1 ⟨rfl,rfl⟩
 go_wp2
 go_ret3
 exact ⟨rfl,Below.refl _ _⟩
set_option maxRecDepth 10000 in
theorem cutT_yes (a r:List UInt8) (hl:(a++126 :: r).length≤4294967296) (h:∀ x ∈ a,x≠126) (w:World):Calls Tryz.prog 131 #[.string (mkL (a++126 :: r)),.string ⟨#[126]⟩] w fun e w'=>e = .returned (.tuple #[.string (mkL a),.string (mkL r),.bool true])∧Below w.heap.size w w':=by
 have c1:=hid (fun u:World=>cutS_yes a r hl h u)
 clear h hl
 obtain ⟨s,hs⟩:∃ s,mkL (a++126 :: r)=s:=⟨_,rfl⟩
 rw [hs] at c1 ⊢
 clear hs
 go_enter Tryz.func131,Tryz.ntmps131
 go_wp2_with fail
 refine Calls.mono (c1.out _) ?_
 rintro e w1 ⟨rfl,b1⟩
 have b1':=hid b1
 clear b1
 go_wp2
 go_ret3
 exact ⟨rfl,b1'.out⟩
def tlC:List UInt8→Nat × Bool
 | []=>(0,false)
 | d :: _=>if d=49 then (47,true) else if d=48 then (126,true) else (0,false)
set_option maxRecDepth 10000 in
set_option maxHeartbeats 2000000 in
theorem tilde_calls (l:List UInt8) (w:World):Calls Tryz.prog 132 #[.string (mkL l)] w fun e w'=>e = .returned (.tuple #[.int .u8 ((tlC l).1:Int),.bool (tlC l).2])∧w'=w:=by
 cases l with
 | nil =>
  show Calls Tryz.prog 132 #[.string ByteArray.empty] w _
  go_enter Tryz.func132,Tryz.ntmps132
  go_wp2
  go_ret2
  exact ⟨rfl,rfl⟩
 | cons d t =>
  have hne:((mkL (d :: t)).toList == [])=false:=by
   rw [eq_const,data_mkL]
   exact decide_eq_false (by simp)
  have h0:0<(mkL (d :: t)).size:=by rw [mkL_size];simp
  have hd:((mkL (d :: t))[0]'h0).toNat=d.toNat:=by
   rw [← lk_at _ 0 h0]
   exact lk_mkL (d :: t) 0 d rfl
  have key:(d=49∧d.toNat=49)∨(d≠49∧d=48∧d.toNat=48)∨(d≠49∧d≠48∧d.toNat≠49∧d.toNat≠48):=by
   by_cases h1:d=49
   ·exact .inl ⟨h1,by rw [h1];rfl⟩
   ·by_cases h2:d=48
    ·exact .inr (.inl ⟨h1,h2,by rw [h2];rfl⟩)
    ·exact .inr (.inr ⟨h1,h2,fun h=>h1 (UInt8.toNat_inj.1 h),fun h=>h2 (UInt8.toNat_inj.1 h)⟩)
  generalize mkL (d :: t)=s at hne h0 hd ⊢
  rcases key with ⟨k1,k2⟩ | ⟨k1,k2,k3⟩ | ⟨k1,k2,k3,k4⟩
  ·have ht:=hid (show tlC (d :: t)=(47,true) by show (if d=49 then _ else _)=_;rw [if_pos k1])
   rw [k2] at hd
   clear k1 k2
   go_enter Tryz.func132,Tryz.ntmps132
   go_wp2
   go_ret2
   exact ⟨by rw [ht.out];rfl,rfl⟩
  ·have ht:=hid (show tlC (d :: t)=(126,true) by show (if d=49 then _ else _)=_;rw [if_neg k1,if_pos k2])
   rw [k3] at hd
   clear k1 k2 k3
   go_enter Tryz.func132,Tryz.ntmps132
   go_wp2
   go_ret2
   exact ⟨by rw [ht.out];rfl,rfl⟩
  ·have ht:=hid (show tlC (d :: t)=(0,false) by show (if d=49 then _ else _)=_;rw [if_neg k1,if_neg k2])
   have g1:((s[0]'h0).toNat:Int)≠49:=by rw [hd];omega
   have g2:((s[0]'h0).toNat:Int)≠48:=by rw [hd];omega
   clear k1 k2 k3 k4 hd
   go_enter Tryz.func132,Tryz.ntmps132
   go_wp2
   go_ret2
   exact ⟨by rw [ht.out];rfl,rfl⟩
end Go.Proofs.YtongedjlmohogaaGreatDoor

namespace Go.Proofs.YtongedjlmohogaaGreatDoor
open Go.RowKit Go.Shelf
theorem BdI.fresh0 (w:World):BdI (w.alloc (.cells #[.pointer none,.slice none 0 0] 65)) w.heap.size (w.heap.size+1) [] :=
 ⟨_,_,At.new w _ _,.inl rfl,by simpa [Lib.byteCells] using World.ownsRow_nil (w.alloc (.cells #[.pointer none,.slice none 0 0] 65)) (w.heap.size+1) 5 1⟩
def szOf:Value→Nat
 | .string s=>s.size
 | _=>0
def MnS (l acc r:List UInt8) (more:Bool):Prop:=(more=true→mnL l=(mnL (126 :: r)).map (acc ++ ·))∧(more=false→mnL l=some acc)∧acc.length+r.length≤l.length
theorem MnS.start_no {l:List UInt8} (h:∀ x ∈ l,x≠126):MnS l l [] false:=⟨fun h=>(by cases h),fun _=>by have:=mnL_pre l h [];simpa [mnL] using this,by simp⟩
theorem MnS.start_yes {a r:List UInt8} (h:∀ x ∈ a,x≠126):MnS (a++126 :: r) a r true:=⟨fun _=>mnL_pre a h _,fun h=>(by cases h),by simp⟩
theorem MnS.bad {l acc r:List UInt8} (h:MnS l acc r true) (hr:(tlC r).2=false):mnL l=none:=by
 rw [h.1 rfl]
 cases r with
 | nil=>rw [mnL_none];rfl
 | cons d t =>
  rw [mnL_til]
  have h1:d≠49:=fun e=>by subst e;simp [tlC] at hr
  have h2:d≠48:=fun e=>by subst e;simp [tlC] at hr
  rw [if_neg h2,if_neg h1]
  rfl
theorem MnS.next {l acc r:List UInt8} (h:MnS l acc r true) (hr:(tlC r).2=true):∃ d t,r=d :: t∧(tlC r).1<256∧mnL l=(mnL t).map ((acc++[UInt8.ofNat (tlC r).1]) ++ ·):=by
 cases r with
 | nil=>cases hr
 | cons d t =>
  by_cases h1:d=49
  ·subst h1
   refine ⟨49,t,rfl,show (47:Nat)<256 by decide,?_⟩
   rw [h.1 rfl,mnL_til,if_neg (by decide),if_pos rfl]
   show _=Option.map (fun x=>acc++[47]++x) (mnL t)
   cases mnL t <;> simp
  ·by_cases h2:d=48
   ·subst h2
    refine ⟨48,t,rfl,show (126:Nat)<256 by decide,?_⟩
    rw [h.1 rfl,mnL_til,if_pos rfl]
    show _=Option.map (fun x=>acc++[126]++x) (mnL t)
    cases mnL t <;> simp
   ·exfalso
    simp [tlC,h1,h2] at hr
theorem MnS.go_no {l acc t:List UInt8} (h:mnL l=(mnL t).map (acc ++ ·)) (ht:∀ x ∈ t,x≠126) (hl:acc.length+t.length≤l.length):MnS l (acc++t) [] false :=
 ⟨fun h=>(by cases h),fun _=>by rw [h];have:=mnL_pre t ht [];simp [mnL] at this;rw [this];rfl,by simp;omega⟩
theorem MnS.go_yes {l acc a r:List UInt8} (h:mnL l=(mnL (a++126 :: r)).map (acc ++ ·)) (ht:∀ x ∈ a,x≠126) (hl:acc.length+(a++126 :: r).length≤l.length):MnS l (acc++a) r true :=
 ⟨fun _=>by rw [h,mnL_pre a ht];cases mnL (126 :: r) <;> simp,fun h=>(by cases h),by simp at hl ⊢;omega⟩
theorem cutT_any (l:List UInt8) (hl:l.length≤4294967296):∃ a r more,Hid (∀ w:World,Calls Tryz.prog 131 #[.string (mkL l),.string ⟨#[126]⟩] w fun e w'=>e = .returned (.tuple #[.string (mkL a),.string (mkL r),.bool more])∧Below w.heap.size w w')∧Hid (a.length+r.length≤l.length)∧Hid (MnS l a r more)∧Hid (∀ (L acc:List UInt8),mnL L=(mnL l).map (acc ++ ·)→acc.length+l.length≤L.length→MnS L (acc++a) r more):=by
 rcases first_til l with h | ⟨a,r,rfl,h⟩
 ·exact ⟨l,[],false,hid (fun w=>cutT_no l h w),hid (by simp),hid (MnS.start_no h),hid (fun L acc h1 h2=>MnS.go_no h1 h h2)⟩
 ·exact ⟨a,r,true,hid (fun w=>cutT_yes a r hl h w),hid (by simp),hid (MnS.start_yes h),hid (fun L acc h1 h2=>MnS.go_yes h1 h h2)⟩
set_option maxRecDepth 10000 in
set_option maxHeartbeats 4000000 in
theorem meant_calls (l:List UInt8) (hl:l.length≤4294967296) (w:World):Calls Tryz.prog 110 #[.string (mkL l)] w fun e w'=>e = .returned (.tuple #[.string (mkL ((mnL l).getD [])),.bool (mnL l).isSome])∧Below w.heap.size w w':=by
 obtain ⟨a,r,more,hc,hz,hm0,-⟩:=cutT_any l hl
 obtain ⟨m,hm⟩:∃ m,Hid (w.heap.size=m):=⟨_,rfl⟩
 have D0:=hid (BdI.fresh0 w)
 have al:=hid (show Below w.heap.size w (w.alloc (.cells #[.pointer none,.slice none 0 0] 65)) from (Below.refl _ _).alloc (Nat.le_refl _) _)
 have sz0:=hid (show (w.alloc (.cells #[.pointer none,.slice none 0 0] 65)).heap.size=m+1 by rw [World.size_alloc,hm.out])
 rw [hm.out] at D0 al
 obtain ⟨s0,hs0⟩:∃ s,Hid (mkL l=s):=⟨_,rfl⟩
 rw [hs0.out] at hc ⊢
 have hl':=hid hl
 clear hl hs0
 go_enter Tryz.func110,Tryz.ntmps110
 go_wp2_with fail
 refine Calls.mono (hc.out _) ?_
 rintro e w1 ⟨rfl,b1⟩
 rw [hm.out]
 have D1:=hid (D0.out.kept b1)
 have B1:=hid (al.out.trans (b1.mono (by rw [sz0.out];omega)))
 have z1:=hid (Nat.le_trans (Nat.le_of_eq sz0.out.symm) b1.size)
 clear b1 D0 al sz0 hc
 go_wp2_with fail
 refine Calls.mono (bstr_calls m (m+1) [] (mkL a) (Nat.lt_succ_self _) (by have:=hz.out;have:=hl'.out;rw [mkL_size];simp;omega) _ D1.out z1.out) ?_
 rintro e w2 ⟨rfl,d2,b2⟩
 have D2:=hid (show BdI w2 m (m+1) a by simpa [data_mkL] using d2)
 have B2:=hid (B1.out.trans b2)
 have z2:=hid (Nat.le_trans z1.out b2.size)
 clear d2 b2 D1 B1 z1
 go_wp2
 go_loopw [6,7] (fun rr mm wr=>∃ (acc r:List UInt8) (more:Bool),rr = .string (mkL r)∧mm = .bool more∧Hid (MnS l acc r more)∧Hid (BdI wr m (m+1) acc)∧Hid (Below m w wr)∧Hid (m+1≤wr.heap.size)) (fun rr _ _=>szOf rr)
 case atStart=>exact ⟨a,r,more,rfl,rfl,hm0,D2,B2,z2⟩
 case round =>
  clear D2 B2 z2 hm0 hz
  obtain ⟨acc,r,more,rfl,rfl,hM,hD,hB,hz⟩:=hrel
  cases more with
  | false =>
   have hv:=hid (hM.out.2.1 rfl)
   go_wp2_with fail
   refine Calls.mono (bstring_calls m (m+1) m acc _ hD.out (Nat.le_succ _) hz.out) ?_
   rintro e w3 ⟨rfl,b3,-⟩
   have B3:=hid (hB.out.trans b3)
   clear b3
   go_wp2
   go_ret2
   exact ⟨by rw [hv.out];rfl,by rw [hm.out];exact B3.out⟩
  | true =>
   have ct:=hid (fun u:World=>tilde_calls r u)
   cases hok:(tlC r).2 with
   | false =>
    have hv:=hid (hM.out.bad hok)
    rw [hok] at ct
    obtain ⟨c,hc⟩:∃ c,(tlC r).1=c:=⟨_,rfl⟩
    rw [hc] at ct
    clear hok hc
    go_wp2_with fail
    refine Calls.mono (ct.out _) ?_
    rintro e w3 ⟨rfl,rfl⟩
    go_wp2
    go_ret2
    exact ⟨by rw [hv.out];rfl,by rw [hm.out];exact hB.out⟩
   | true =>
    obtain ⟨d,t,hr,hc256,hmn⟩:=hM.out.next hok
    have hlen:=hM.out.2.2
    rw [hok] at ct
    obtain ⟨c,hc⟩:∃ c,(tlC r).1=c:=⟨_,rfl⟩
    rw [hc] at ct hc256 hmn
    have hll:=hl'.out
    have hrl:r.length=t.length+1:=by rw [hr];rfl
    obtain ⟨a',r',more',hcc,hz',-,hgo⟩:=cutT_any t (by omega)
    have e1:(mkL r).extract 1 (mkL r).size=mkL t:=by
     rw [mkL_ext,mkL_size,hr]
     congr 1
     simp
    have e1':=hid e1
    have hS:=hid (hgo.out l _ hmn (by simp;omega))
    have hs1:1≤(mkL r).size:=by rw [mkL_size];omega
    have hsr:=hid (show (mkL r').size<(mkL r).size by rw [mkL_size,mkL_size];have:=hz'.out;omega)
    have hla:=hid (show acc.length+1+(mkL a').size≤140737488355328 by rw [mkL_size];have:=hz'.out;omega)
    rw [← e1] at hcc
    obtain ⟨s,hs⟩:∃ s,mkL r=s:=⟨_,rfl⟩
    rw [hs] at ct hcc hs1 hsr ⊢
    clear hok hc e1 e1' hs hr hmn hlen hll hrl hgo hM hz'
    go_wp2_with fail
    refine Calls.mono (ct.out _) ?_
    rintro e w3 ⟨rfl,rfl⟩
    go_wp2_with fail
    refine Calls.mono (bbyte_calls m (m+1) acc (UInt8.ofNat c) (c:Int) (by simp [UInt8.toNat_ofNat'];omega) (Nat.lt_succ_self _) (by have:=hla.out;omega) _ hD.out hz.out) ?_
    rintro e w4 ⟨rfl,d4,b4⟩
    have D4:=hid d4
    have B4:=hid (hB.out.trans b4)
    have z4:=hid (Nat.le_trans hz.out b4.size)
    clear d4 b4 hD hB hz
    go_wp2_with fail
    refine Calls.mono (hcc.out _) ?_
    rintro e w5 ⟨rfl,b5⟩
    have D5:=hid (D4.out.kept b5)
    have B5:=hid (B4.out.trans (b5.mono (by have:=z4.out;omega)))
    have z5:=hid (Nat.le_trans z4.out b5.size)
    clear b5 D4 B4 z4
    go_wp2_with fail
    refine Calls.mono (bstr_calls m (m+1) (acc++[UInt8.ofNat c]) (mkL a') (Nat.lt_succ_self _) (by have:=hla.out;simp;omega) _ D5.out z5.out) ?_
    rintro e w6 ⟨rfl,d6,b6⟩
    have D6:=hid (show BdI w6 m (m+1) (acc++[UInt8.ofNat c]++a') by simpa [data_mkL] using d6)
    have B6:=hid (B5.out.trans b6)
    have z6:=hid (Nat.le_trans z5.out b6.size)
    clear d6 b6 D5 B5 z5
    go_wp2
    go_roundw
    case rel=>exact ⟨_,r',more',rfl,rfl,hS,D6,B6,z6⟩
    case measure=>exact hsr.out
end Go.Proofs.YtongedjlmohogaaGreatDoor

namespace Go.Proofs.YtongedjlmohogaaGreatDoor
open Go.RowKit Go.Shelf
theorem wpList_keysR {ops:Array Oper} {rest:List Oper} {o:Oper} {a:Act} {Q:Exit→Act→World→Prop} {W:World} {x y:Operand} {B:Nat} {v:Value} {ks:List ByteArray} {u:ByteArray} (hgd:o.guard=none) (ho:o.op = .call { callee:=.builtin .append,args:=#[x,y],argTypes:=#[56,56] })
  (hx:a.eval x=v) (h:KeysG B W v ks) (hu:u.size≤capT) (ad:Addr) (c:Nat) (hy:a.eval y = .slice (some ad) 1 c) (hC:W.cell? (ad.add 0)=some (.string u)) (hn:ks.length<1099511627776) (hB:B≤W.heap.size)
  (hr:∀ v' W',KeysG B W' v' (ks++[u])→W.grownBy W' v.ownBlock→wpList Tryz.prog ops Q rest (a.put o.dst v') W'):wpList Tryz.prog ops Q (o :: rest) a W:=by
 refine wpList_plain hgd fun _ hK=>?_
 obtain ⟨v',W',hrun,h1,h2,-⟩:=h.app (ty:=o.type) hu ad c hC hn hB
 unfold Oper.wp execOp
 simp only [ho,resolve,invoke,builtin,Sem.run_bind,Sem.run_pure,Result.andThen_ok,List.map_toArray,List.map_cons,List.map_nil,hx,hy,hrun]
 exact hK _ _ (hr v' W' h1 h2)
end Go.Proofs.YtongedjlmohogaaGreatDoor
