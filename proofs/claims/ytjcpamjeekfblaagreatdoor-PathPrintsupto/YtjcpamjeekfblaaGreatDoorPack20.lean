/-
  Texts of mine that others lean on, one behind the other.
-/
import Derived.Test.YtjcpamjeekfblaaGreatDoorPack2
import Derived.Test.YtjcpamjeekfblaaGreatDoorPack18
import Derived.Lib.ItoaNum
import Derived.Test.YtjcpamjeekfblaaGreatDoorPack19
import Derived.Shelf.Strings.Replace
import Derived.Shelf.LaysM
import Derived.Test.YtjcpamjeekfblaaGreatDoorProg
import Derived.KernelRfl
import Derived.Lib.CountLaws
import Derived.Lib.Replace
import Derived.Test.YtjcpamjeekfblaaGreatDoorPack17
import Derived.Test.YtjcpamjeekfblaaGreatDoorPack12
import Derived.Deep.RegionWith
namespace Go.Proofs.YtjcpamjeekfblaaGreatDoor
open Go.ChangeShapes Go.WideShapes Go.ChangeAt Go.RowKit
set_option maxRecDepth 100000
theorem bulk_snoc {H:Type} (ds:List (DataW H)) (d:DataW H):Rows.uptoBulkAll (ds++[d])=Rows.uptoBulkAll ds+Rows.uptoBulk d:=by
 induction ds with
 | nil=>simp [Rows.uptoBulkAll]
 | cons a ds ih=>simp only [List.cons_append,Rows.uptoBulkAll,ih];omega
section
variable {H:Type} {enc:TypeId × Value→H} {w:World} {base:Nat} {spare:Nat→Bool} {held:Bool}
end
end Go.Proofs.YtjcpamjeekfblaaGreatDoor

namespace Go.Proofs.YtjcpamjeekfblaaGreatDoor
open Go.RowKit Go.Shelf
def stpK (k:Int) (ks:List ByteArray) (i:Nat):List UInt8:=if k=5 then Lib.itoa (i:Int) else wrN ((ks[i]?).getD ⟨#[]⟩).data.toList
mutual
def prV (p:List UInt8):Vt→List (List UInt8 × Vt)
 | .mk k b r t ks vs=>(p,.mk k b r t ks vs) :: prL p k ks 0 vs
def prL (p:List UInt8) (k:Int) (ks:List ByteArray):Nat→List Vt→List (List UInt8 × Vt)
 | _,[]=>[]
 | i,v :: vs=>prV (p++[47]++stpK k ks i) v++prL p k ks (i+1) vs
end
theorem prL_app (p:List UInt8) (k:Int) (ks:List ByteArray):∀ (a b:List Vt) (i:Nat),prL p k ks i (a++b)=prL p k ks i a++prL p k ks (i+a.length) b
 | [],b,i=>by simp [prL]
 | v :: a,b,i=>by
  rw [List.cons_append,prL,prL,prL_app p k ks a b (i+1),List.length_cons,show i+1+a.length=i+(a.length+1) by omega]
  exact (List.append_assoc _ _ _).symm
def PartAt (L:List (List UInt8 × Vt)) (r:Nat) (M:List (List UInt8 × Vt)):Prop:=∀ (i:Nat) (x:List UInt8 × Vt),M[i]? = some x→L[r+i]? = some x
theorem PartAt.head {L:List (List UInt8 × Vt)} {r:Nat} {p:List UInt8} {k:Int} {b:Bool} {rw' t:ByteArray} {ks:List ByteArray} {vs:List Vt} (h:PartAt L r (prV p (.mk k b rw' t ks vs))):L[r]? = some (p,.mk k b rw' t ks vs):=by
 have:=h 0 (p,.mk k b rw' t ks vs) (by rw [prV];rfl)
 simpa using this
theorem PartAt.kid {L:List (List UInt8 × Vt)} {r:Nat} {p:List UInt8} {k:Int} {b:Bool} {rw' t:ByteArray} {ks:List ByteArray} {vs:List Vt} (h:PartAt L r (prV p (.mk k b rw' t ks vs))) {i:Nat} {u:Vt} (hu:vs[i]? = some u) :
  PartAt L (r+1+(prL p k ks 0 (vs.take i)).length) (prV (p++[47]++stpK k ks i) u):=by
 intro j x hx
 have:=h (1+(prL p k ks 0 (vs.take i)).length+j) x ?_
 ·rw [← this];congr 1;omega
 ·rw [prV,show 1+(prL p k ks 0 (vs.take i)).length+j=((prL p k ks 0 (vs.take i)).length+j)+1 by omega,List.getElem?_cons_succ]
  have e:vs=vs.take i++(u :: vs.drop (i+1)):=by
   conv=>lhs;rw [← List.take_append_drop i vs,List.drop_eq_getElem_cons (List.getElem?_eq_some_iff.1 hu).1,(List.getElem?_eq_some_iff.1 hu).2]
  have hi:i<vs.length:=(List.getElem?_eq_some_iff.1 hu).1
  have hl:(vs.take i).length=i:=by rw [List.length_take];omega
  have e2:prL p k ks 0 vs=prL p k ks 0 (vs.take i)++(prV (p++[47]++stpK k ks i) u++prL p k ks (i+1) (vs.drop (i+1))):=by
   conv=>lhs;rw [e,prL_app,hl,Nat.zero_add,prL]
  have hj:j<(prV (p++[47]++stpK k ks i) u).length:=(List.getElem?_eq_some_iff.1 hx).1
  rw [e2,List.getElem?_append_right (by omega),show (prL p k ks 0 (vs.take i)).length+j-(prL p k ks 0 (vs.take i)).length=j by omega,List.getElem?_append_left hj]
  exact hx
mutual
def okP:Vt→Prop
 | .mk k _ _ _ ks vs=>(∀ i,i<vs.length→k=5∨(k≠5∧∃ s,ks[i]? = some s∧s.size≤2147483640))∧vs.length≤1099511627776∧okPL vs
def okPL:List Vt→Prop
 | []=>True
 | v :: vs=>okP v∧okPL vs
end
theorem okPL_get:∀ {vs:List Vt} {i:Nat} {u:Vt},okPL vs→vs[i]? = some u→okP u
 | [],i,u,_,h=>by simp at h
 | v :: vs,i,u,hs,h=>by
  unfold okPL at hs
  cases i with
  | zero=>simp at h;subst h;exact hs.1
  | succ i=>exact okPL_get hs.2 (by simpa using h)
end Go.Proofs.YtjcpamjeekfblaaGreatDoor

namespace Go.Proofs.YtjcpamjeekfblaaGreatDoor
open Go.RowKit Go.Shelf
theorem BdI.fresh0 (w:World):BdI (w.alloc (.cells #[.pointer none,.slice none 0 0] 65)) w.heap.size (w.heap.size+1) [] :=
 ⟨_,_,At.new w _ _,.inl rfl,by simpa [Lib.byteCells] using World.ownsRow_nil (w.alloc (.cells #[.pointer none,.slice none 0 0] 65)) (w.heap.size+1) 5 1⟩
def szOf:Value→Nat
 | .string s=>s.size
 | _=>0
def MnS (l acc r:List UInt8) (more:Bool):Prop:=(more=true→mnL l=(mnL (126 :: r)).map (acc ++ ·))∧(more=false→mnL l=some acc)∧acc.length+r.length≤l.length
theorem MnS.start_no {l:List UInt8} (h:∀ x ∈ l,x≠126):MnS l l [] false:=⟨fun h=>(by cases h),fun _=>by have:=mnL_pre l h [];simpa [mnL] using this,by simp⟩
theorem MnS.start_yes {a r:List UInt8} (h:∀ x ∈ a,x≠126):MnS (a++126 :: r) a r true:=⟨fun _=>mnL_pre a h _,fun h=>(by cases h),by simp⟩
theorem MnS.bad {l acc r:List UInt8} (h:MnS l acc r true) (hr:(tlC r).2=false):mnL l=none:=by
 rw [h.1 rfl]
 cases r with
 | nil=>rw [mnL_none];rfl
 | cons d t =>
  rw [mnL_til]
  have h1:d≠49:=fun e=>by subst e;simp [tlC] at hr
  have h2:d≠48:=fun e=>by subst e;simp [tlC] at hr
  rw [if_neg h2,if_neg h1]
  rfl
theorem MnS.next {l acc r:List UInt8} (h:MnS l acc r true) (hr:(tlC r).2=true):∃ d t,r=d :: t∧(tlC r).1<256∧mnL l=(mnL t).map ((acc++[UInt8.ofNat (tlC r).1]) ++ ·):=by
 cases r with
 | nil=>cases hr
 | cons d t =>
  by_cases h1:d=49
  ·subst h1
   refine ⟨49,t,rfl,show (47:Nat)<256 by decide,?_⟩
   rw [h.1 rfl,mnL_til,if_neg (by decide),if_pos rfl]
   show _=Option.map (fun x=>acc++[47]++x) (mnL t)
   cases mnL t <;> simp
  ·by_cases h2:d=48
   ·subst h2
    refine ⟨48,t,rfl,show (126:Nat)<256 by decide,?_⟩
    rw [h.1 rfl,mnL_til,if_pos rfl]
    show _=Option.map (fun x=>acc++[126]++x) (mnL t)
    cases mnL t <;> simp
   ·exfalso
    simp [tlC,h1,h2] at hr
theorem MnS.go_no {l acc t:List UInt8} (h:mnL l=(mnL t).map (acc ++ ·)) (ht:∀ x ∈ t,x≠126) (hl:acc.length+t.length≤l.length):MnS l (acc++t) [] false :=
 ⟨fun h=>(by cases h),fun _=>by rw [h];have:=mnL_pre t ht [];simp [mnL] at this;rw [this];rfl,by simp;omega⟩
theorem MnS.go_yes {l acc a r:List UInt8} (h:mnL l=(mnL (a++126 :: r)).map (acc ++ ·)) (ht:∀ x ∈ a,x≠126) (hl:acc.length+(a++126 :: r).length≤l.length):MnS l (acc++a) r true :=
 ⟨fun _=>by rw [h,mnL_pre a ht];cases mnL (126 :: r) <;> simp,fun h=>(by cases h),by simp at hl ⊢;omega⟩
theorem cutT_any (l:List UInt8) (hl:l.length≤4294967296):∃ a r more,Hid (∀ w:World,Calls Tryz.prog 131 #[.string (mkL l),.string ⟨#[126]⟩] w fun e w'=>e = .returned (.tuple #[.string (mkL a),.string (mkL r),.bool more])∧Below w.heap.size w w')∧Hid (a.length+r.length≤l.length)∧Hid (MnS l a r more)∧Hid (∀ (L acc:List UInt8),mnL L=(mnL l).map (acc ++ ·)→acc.length+l.length≤L.length→MnS L (acc++a) r more):=by
 rcases first_til l with h | ⟨a,r,rfl,h⟩
 ·exact ⟨l,[],false,hid (fun w=>cutT_no l h w),hid (by simp),hid (MnS.start_no h),hid (fun L acc h1 h2=>MnS.go_no h1 h h2)⟩
 ·exact ⟨a,r,true,hid (fun w=>cutT_yes a r hl h w),hid (by simp),hid (MnS.start_yes h),hid (fun L acc h1 h2=>MnS.go_yes h1 h h2)⟩
set_option maxRecDepth 10000 in
set_option maxHeartbeats 4000000 in
theorem meant_calls (l:List UInt8) (hl:l.length≤4294967296) (w:World):Calls Tryz.prog 110 #[.string (mkL l)] w fun e w'=>e = .returned (.tuple #[.string (mkL ((mnL l).getD [])),.bool (mnL l).isSome])∧Below w.heap.size w w':=by
 obtain ⟨a,r,more,hc,hz,hm0,-⟩:=cutT_any l hl
 obtain ⟨m,hm⟩:∃ m,Hid (w.heap.size=m):=⟨_,rfl⟩
 have D0:=hid (BdI.fresh0 w)
 have al:=hid (show Below w.heap.size w (w.alloc (.cells #[.pointer none,.slice none 0 0] 65)) from (Below.refl _ _).alloc (Nat.le_refl _) _)
 have sz0:=hid (show (w.alloc (.cells #[.pointer none,.slice none 0 0] 65)).heap.size=m+1 by rw [World.size_alloc,hm.out])
 rw [hm.out] at D0 al
 obtain ⟨s0,hs0⟩:∃ s,Hid (mkL l=s):=⟨_,rfl⟩
 rw [hs0.out] at hc ⊢
 have hl':=hid hl
 clear hl hs0
 go_enter Tryz.func110,Tryz.ntmps110
 go_wp2_with fail
 refine Calls.mono (hc.out _) ?_
 rintro e w1 ⟨rfl,b1⟩
 rw [hm.out]
 have D1:=hid (D0.out.kept b1)
 have B1:=hid (al.out.trans (b1.mono (by rw [sz0.out];omega)))
 have z1:=hid (Nat.le_trans (Nat.le_of_eq sz0.out.symm) b1.size)
 clear b1 D0 al sz0 hc
 go_wp2_with fail
 refine Calls.mono (bstr_calls m (m+1) [] (mkL a) (Nat.lt_succ_self _) (by have:=hz.out;have:=hl'.out;rw [mkL_size];simp;omega) _ D1.out z1.out) ?_
 rintro e w2 ⟨rfl,d2,b2⟩
 have D2:=hid (show BdI w2 m (m+1) a by simpa [data_mkL] using d2)
 have B2:=hid (B1.out.trans b2)
 have z2:=hid (Nat.le_trans z1.out b2.size)
 clear d2 b2 D1 B1 z1
 go_wp2
 go_loopw [6,7] (fun rr mm wr=>∃ (acc r:List UInt8) (more:Bool),rr = .string (mkL r)∧mm = .bool more∧Hid (MnS l acc r more)∧Hid (BdI wr m (m+1) acc)∧Hid (Below m w wr)∧Hid (m+1≤wr.heap.size)) (fun rr _ _=>szOf rr)
 case atStart=>exact ⟨a,r,more,rfl,rfl,hm0,D2,B2,z2⟩
 case round =>
  clear D2 B2 z2 hm0 hz
  obtain ⟨acc,r,more,rfl,rfl,hM,hD,hB,hz⟩:=hrel
  cases more with
  | false =>
   have hv:=hid (hM.out.2.1 rfl)
   go_wp2_with fail
   refine Calls.mono (bstring_calls m (m+1) m acc _ hD.out (Nat.le_succ _) hz.out) ?_
   rintro e w3 ⟨rfl,b3,-⟩
   have B3:=hid (hB.out.trans b3)
   clear b3
   go_wp2
   go_ret2
   exact ⟨by rw [hv.out];rfl,by rw [hm.out];exact B3.out⟩
  | true =>
   have ct:=hid (fun u:World=>tilde_calls r u)
   cases hok:(tlC r).2 with
   | false =>
    have hv:=hid (hM.out.bad hok)
    rw [hok] at ct
    obtain ⟨c,hc⟩:∃ c,(tlC r).1=c:=⟨_,rfl⟩
    rw [hc] at ct
    clear hok hc
    go_wp2_with fail
    refine Calls.mono (ct.out _) ?_
    rintro e w3 ⟨rfl,rfl⟩
    go_wp2
    go_ret2
    exact ⟨by rw [hv.out];rfl,by rw [hm.out];exact hB.out⟩
   | true =>
    obtain ⟨d,t,hr,hc256,hmn⟩:=hM.out.next hok
    have hlen:=hM.out.2.2
    rw [hok] at ct
    obtain ⟨c,hc⟩:∃ c,(tlC r).1=c:=⟨_,rfl⟩
    rw [hc] at ct hc256 hmn
    have hll:=hl'.out
    have hrl:r.length=t.length+1:=by rw [hr];rfl
    obtain ⟨a',r',more',hcc,hz',-,hgo⟩:=cutT_any t (by omega)
    have e1:(mkL r).extract 1 (mkL r).size=mkL t:=by
     rw [mkL_ext,mkL_size,hr]
     congr 1
     simp
    have e1':=hid e1
    have hS:=hid (hgo.out l _ hmn (by simp;omega))
    have hs1:1≤(mkL r).size:=by rw [mkL_size];omega
    have hsr:=hid (show (mkL r').size<(mkL r).size by rw [mkL_size,mkL_size];have:=hz'.out;omega)
    have hla:=hid (show acc.length+1+(mkL a').size≤140737488355328 by rw [mkL_size];have:=hz'.out;omega)
    rw [← e1] at hcc
    obtain ⟨s,hs⟩:∃ s,mkL r=s:=⟨_,rfl⟩
    rw [hs] at ct hcc hs1 hsr ⊢
    clear hok hc e1 e1' hs hr hmn hlen hll hrl hgo hM hz'
    go_wp2_with fail
    refine Calls.mono (ct.out _) ?_
    rintro e w3 ⟨rfl,rfl⟩
    go_wp2_with fail
    refine Calls.mono (bbyte_calls m (m+1) acc (UInt8.ofNat c) (c:Int) (by simp [UInt8.toNat_ofNat'];omega) (Nat.lt_succ_self _) (by have:=hla.out;omega) _ hD.out hz.out) ?_
    rintro e w4 ⟨rfl,d4,b4⟩
    have D4:=hid d4
    have B4:=hid (hB.out.trans b4)
    have z4:=hid (Nat.le_trans hz.out b4.size)
    clear d4 b4 hD hB hz
    go_wp2_with fail
    refine Calls.mono (hcc.out _) ?_
    rintro e w5 ⟨rfl,b5⟩
    have D5:=hid (D4.out.kept b5)
    have B5:=hid (B4.out.trans (b5.mono (by have:=z4.out;omega)))
    have z5:=hid (Nat.le_trans z4.out b5.size)
    clear b5 D4 B4 z4
    go_wp2_with fail
    refine Calls.mono (bstr_calls m (m+1) (acc++[UInt8.ofNat c]) (mkL a') (Nat.lt_succ_self _) (by have:=hla.out;simp;omega) _ D5.out z5.out) ?_
    rintro e w6 ⟨rfl,d6,b6⟩
    have D6:=hid (show BdI w6 m (m+1) (acc++[UInt8.ofNat c]++a') by simpa [data_mkL] using d6)
    have B6:=hid (B5.out.trans b6)
    have z6:=hid (Nat.le_trans z5.out b6.size)
    clear d6 b6 D5 B5 z5
    go_wp2
    go_roundw
    case rel=>exact ⟨_,r',more',rfl,rfl,hS,D6,B6,z6⟩
    case measure=>exact hsr.out
end Go.Proofs.YtjcpamjeekfblaaGreatDoor

namespace Go.Proofs
open Go.Shelf
def Tryz.lays155_ren:Go.Shelf.Ren:=⟨fun | 155=>112 | 154=>133 | 138=>148 | 165=>149 | 143=>150 | 166=>28 | 197=>151 | 169=>31 | 195=>160 | 218=>161 | 240=>48 | 241=>162 | 219=>159 | 260=>163 | 276=>77 | 277=>181 | 217=>177 | 225=>178 | 224=>179 | 267=>180 | 266=>197 | 314=>198 | n=>n,fun | 9=>9 | 3=>3 | 4=>4 | 72=>65 | 0=>0 | 76=>69 | 105=>186 | 21=>21 | 5=>5 | 70=>62 | 20=>20 | 37=>63 | 75=>67 | 127=>90 | 164=>103 | 46=>116 | 119=>112 | 139=>115 | 138=>114 | 146=>218 | 51=>154 | 80=>73 | n=>n,fun | 1=>5 | 3=>0 | 4=>1 | n=>n⟩
theorem Tryz.lays155:Go.Proofs.Lays.n155 Tryz.prog Tryz.lays155_ren:={
  mixed:=by kernel_rfl
  f138:=Tryz.func148.trans (congrArg some (by kernel_rfl))
  f143:=Tryz.func150.trans (congrArg some (by kernel_rfl))
  f154:=Tryz.func133.trans (congrArg some (by kernel_rfl))
  f155:=Tryz.func112.trans (congrArg some (by kernel_rfl))
  f165:=Tryz.func149.trans (congrArg some (by kernel_rfl))
  f166:=Tryz.func28.trans (congrArg some (by kernel_rfl))
  f169:=Tryz.func31.trans (congrArg some (by kernel_rfl))
  f195:=Tryz.func160.trans (congrArg some (by kernel_rfl))
  f197:=Tryz.func151.trans (congrArg some (by kernel_rfl))
  f217:=Tryz.func177.trans (congrArg some (by kernel_rfl))
  f218:=Tryz.func161.trans (congrArg some (by kernel_rfl))
  f219:=Tryz.func159.trans (congrArg some (by kernel_rfl))
  f224:=Tryz.func179.trans (congrArg some (by kernel_rfl))
  f225:=Tryz.func178.trans (congrArg some (by kernel_rfl))
  f240:=Tryz.func48.trans (congrArg some (by kernel_rfl))
  f241:=Tryz.func162.trans (congrArg some (by kernel_rfl))
  f260:=Tryz.func163.trans (congrArg some (by kernel_rfl))
  f266:=Tryz.func197.trans (congrArg some (by kernel_rfl))
  f267:=Tryz.func180.trans (congrArg some (by kernel_rfl))
  f276:=Tryz.func77.trans (congrArg some (by kernel_rfl))
  f277:=Tryz.func181.trans (congrArg some (by kernel_rfl))
  f314:=Tryz.func198.trans (congrArg some (by kernel_rfl))
  t0:=Tryz.underlying0
  a0:=Tryz.isAgg0
  z0:=Tryz.sizeOf0
  v0:=Tryz.zeroValue0
  t3:=Tryz.underlying3
  a3:=Tryz.isAgg3
  z3:=Tryz.sizeOf3
  v3:=Tryz.zeroValue3
  t4:=Tryz.underlying4
  a4:=Tryz.isAgg4
  z4:=Tryz.sizeOf4
  v4:=Tryz.zeroValue4
  t5:=Tryz.underlying5
  a5:=Tryz.isAgg5
  z5:=Tryz.sizeOf5
  v5:=Tryz.zeroValue5
  t9:=Tryz.underlying9
  a9:=Tryz.isAgg9
  z9:=Tryz.sizeOf9
  v9:=Tryz.zeroValue9
  t20:=Tryz.underlying20
  a20:=Tryz.isAgg20
  z20:=Tryz.sizeOf20
  v20:=Tryz.zeroValue20
  t21:=Tryz.underlying21
  a21:=Tryz.isAgg21
  z21:=Tryz.sizeOf21
  v21:=Tryz.zeroValue21
  t37:=Tryz.underlying63
  a37:=Tryz.isAgg63
  z37:=Tryz.sizeOf63
  v37:=Tryz.zeroValue63
  t46:=Tryz.underlying116
  a46:=Tryz.isAgg116
  z46:=Tryz.sizeOf116
  v46:=Tryz.zeroValue116
  t51:=Tryz.underlying154
  a51:=Tryz.isAgg154
  z51:=Tryz.sizeOf154
  v51:=Tryz.zeroValue154
  t70:=Tryz.underlying62
  a70:=Tryz.isAgg62
  z70:=Tryz.sizeOf62
  v70:=Tryz.zeroValue62
  t72:=Tryz.underlying65
  a72:=Tryz.isAgg65
  z72:=Tryz.sizeOf65
  v72:=Tryz.zeroValue65
  t75:=Tryz.underlying67
  a75:=Tryz.isAgg67
  z75:=Tryz.sizeOf67
  v75:=Tryz.zeroValue67
  t76:=Tryz.underlying69
  a76:=Tryz.isAgg69
  z76:=Tryz.sizeOf69
  v76:=Tryz.zeroValue69
  t105:=Tryz.underlying186
  a105:=Tryz.isAgg186
  z105:=Tryz.sizeOf186
  v105:=Tryz.zeroValue186
  t119:=Tryz.underlying112
  a119:=Tryz.isAgg112
  z119:=Tryz.sizeOf112
  t127:=Tryz.underlying90
  a127:=Tryz.isAgg90
  z127:=Tryz.sizeOf90
  v127:=Tryz.zeroValue90
  t138:=Tryz.underlying114
  a138:=Tryz.isAgg114
  z138:=Tryz.sizeOf114
  v138:=Tryz.zeroValue114
  t139:=Tryz.underlying115
  a139:=Tryz.isAgg115
  z139:=Tryz.sizeOf115
  v139:=Tryz.zeroValue115
  t146:=Tryz.underlying218
  a146:=Tryz.isAgg218
  z146:=Tryz.sizeOf218
  v146:=Tryz.zeroValue218
  t164:=Tryz.underlying103
  a164:=Tryz.isAgg103
  z164:=Tryz.sizeOf103
  v164:=Tryz.zeroValue103
  g1:=by kernel_rfl
  g3:=by kernel_rfl
  g4:=by kernel_rfl }
def Tryz.laysM155_ren:Go.Shelf.Ren:=⟨fun | 155=>112 | 154=>133 | 138=>148 | 165=>149 | 143=>150 | 166=>28 | 197=>151 | 169=>31 | 195=>160 | 218=>161 | 240=>48 | 241=>162 | 219=>159 | 260=>163 | 276=>77 | 277=>181 | 217=>177 | 225=>178 | 224=>179 | 267=>180 | 266=>197 | 314=>198 | n=>n,fun | 9=>9 | 3=>3 | 4=>4 | 72=>65 | 0=>0 | 76=>69 | 105=>186 | 21=>21 | 5=>5 | 70=>62 | 20=>20 | 37=>63 | 75=>67 | 127=>90 | 164=>103 | 46=>116 | 119=>112 | 139=>115 | 138=>114 | 146=>218 | 51=>154 | 80=>73 | n=>n,fun | 1=>5 | 3=>0 | 4=>1 | n=>n⟩
theorem Tryz.laysM155:Go.Proofs.LaysM.n155 Tryz.prog Tryz.laysM155_ren:={
  mixed:=by kernel_rfl
  f138:=Tryz.func148.trans (congrArg some (by kernel_rfl))
  f143:=Tryz.func150.trans (congrArg some (by kernel_rfl))
  f154:=Tryz.func133.trans (congrArg some (by kernel_rfl))
  f155:=Tryz.func112.trans (congrArg some (by kernel_rfl))
  f165:=Tryz.func149.trans (congrArg some (by kernel_rfl))
  f166:=Tryz.func28.trans (congrArg some (by kernel_rfl))
  f169:=Tryz.func31.trans (congrArg some (by kernel_rfl))
  f195:=Tryz.func160.trans (congrArg some (by kernel_rfl))
  f197:=Tryz.func151.trans (congrArg some (by kernel_rfl))
  f217:=Tryz.func177.trans (congrArg some (by kernel_rfl))
  f218:=Tryz.func161.trans (congrArg some (by kernel_rfl))
  f219:=Tryz.func159.trans (congrArg some (by kernel_rfl))
  f224:=Tryz.func179.trans (congrArg some (by kernel_rfl))
  f225:=Tryz.func178.trans (congrArg some (by kernel_rfl))
  f240:=Tryz.func48.trans (congrArg some (by kernel_rfl))
  f241:=Tryz.func162.trans (congrArg some (by kernel_rfl))
  f260:=Tryz.func163.trans (congrArg some (by kernel_rfl))
  f266:=Tryz.func197.trans (congrArg some (by kernel_rfl))
  f267:=Tryz.func180.trans (congrArg some (by kernel_rfl))
  f276:=Tryz.func77.trans (congrArg some (by kernel_rfl))
  f277:=Tryz.func181.trans (congrArg some (by kernel_rfl))
  f314:=Tryz.func198.trans (congrArg some (by kernel_rfl))
  t0:=Tryz.underlying0
  a0:=Tryz.isAgg0
  z0:=Tryz.sizeOf0
  v0:=Tryz.zeroValue0
  t3:=Tryz.underlying3
  a3:=Tryz.isAgg3
  z3:=Tryz.sizeOf3
  v3:=Tryz.zeroValue3
  t4:=Tryz.underlying4
  a4:=Tryz.isAgg4
  z4:=Tryz.sizeOf4
  v4:=Tryz.zeroValue4
  t5:=Tryz.underlying5
  a5:=Tryz.isAgg5
  z5:=Tryz.sizeOf5
  v5:=Tryz.zeroValue5
  t9:=Tryz.underlying9
  a9:=Tryz.isAgg9
  z9:=Tryz.sizeOf9
  v9:=Tryz.zeroValue9
  t20:=Tryz.underlying20
  a20:=Tryz.isAgg20
  z20:=Tryz.sizeOf20
  v20:=Tryz.zeroValue20
  t21:=Tryz.underlying21
  a21:=Tryz.isAgg21
  z21:=Tryz.sizeOf21
  v21:=Tryz.zeroValue21
  t37:=Tryz.underlying63
  a37:=Tryz.isAgg63
  z37:=Tryz.sizeOf63
  v37:=Tryz.zeroValue63
  t46:=Tryz.underlying116
  a46:=Tryz.isAgg116
  z46:=Tryz.sizeOf116
  v46:=Tryz.zeroValue116
  t51:=Tryz.underlying154
  a51:=Tryz.isAgg154
  z51:=Tryz.sizeOf154
  v51:=Tryz.zeroValue154
  t70:=Tryz.underlying62
  a70:=Tryz.isAgg62
  z70:=Tryz.sizeOf62
  v70:=Tryz.zeroValue62
  t72:=Tryz.underlying65
  a72:=Tryz.isAgg65
  z72:=Tryz.sizeOf65
  v72:=Tryz.zeroValue65
  t75:=Tryz.underlying67
  a75:=Tryz.isAgg67
  z75:=Tryz.sizeOf67
  v75:=Tryz.zeroValue67
  t76:=Tryz.underlying69
  a76:=Tryz.isAgg69
  z76:=Tryz.sizeOf69
  v76:=Tryz.zeroValue69
  t105:=Tryz.underlying186
  a105:=Tryz.isAgg186
  z105:=Tryz.sizeOf186
  v105:=Tryz.zeroValue186
  t119:=Tryz.underlying112
  a119:=Tryz.isAgg112
  z119:=Tryz.sizeOf112
  t127:=Tryz.underlying90
  a127:=Tryz.isAgg90
  z127:=Tryz.sizeOf90
  v127:=Tryz.zeroValue90
  t138:=Tryz.underlying114
  a138:=Tryz.isAgg114
  z138:=Tryz.sizeOf114
  v138:=Tryz.zeroValue114
  t139:=Tryz.underlying115
  a139:=Tryz.isAgg115
  z139:=Tryz.sizeOf115
  v139:=Tryz.zeroValue115
  t146:=Tryz.underlying218
  a146:=Tryz.isAgg218
  z146:=Tryz.sizeOf218
  v146:=Tryz.zeroValue218
  t164:=Tryz.underlying103
  a164:=Tryz.isAgg103
  z164:=Tryz.sizeOf103
  v164:=Tryz.zeroValue103
  g1:=by kernel_rfl
  g3:=by kernel_rfl
  g4:=by kernel_rfl
  t80:=Tryz.underlying73
  a80:=Tryz.isAgg73
  z80:=Tryz.sizeOf73
  v80:=Tryz.zeroValue73
  i0:=by kernel_rfl
  i3:=by kernel_rfl
  i4:=by kernel_rfl
  i5:=by kernel_rfl
  i9:=by kernel_rfl
  i20:=by kernel_rfl
  i21:=by kernel_rfl
  i37:=by kernel_rfl
  i46:=by kernel_rfl
  i51:=by kernel_rfl
  i70:=by kernel_rfl
  i72:=by kernel_rfl
  i75:=by kernel_rfl
  i76:=by kernel_rfl
  i80:=by kernel_rfl
  i105:=by kernel_rfl
  i127:=by kernel_rfl
  i138:=by kernel_rfl
  i139:=by kernel_rfl
  i146:=by kernel_rfl
  i164:=by kernel_rfl
  m1:=by kernel_rfl
  s1_3:=fun w h=>Go.Proofs.cell_of_shapedOpen_int (zero:=#[.int .i64 0]) (t:=3) h (of_decide_eq_true (by kernel_rfl)) (by kernel_rfl) rfl (by kernel_rfl) (by kernel_rfl) Tryz.underlying3
  m3:=by kernel_rfl
  m4:=by kernel_rfl }
theorem Tryz.Builder_Extra_155:Builder.Extra Tryz.prog Tryz.lays155_ren:={
  sizeBuilder:=by kernel_rfl
  liesBuilder:=by kernel_rfl
  t5:=Tryz.underlying5
  a5:=Tryz.isAgg5
  z5:=Tryz.sizeOf5
  v5:=Tryz.zeroValue5
  infoByte:=by kernel_rfl
  cellsByte:=by kernel_rfl
  sizeByte:=by kernel_rfl
  neB5:=by decide }
end Go.Proofs

namespace Go.Proofs.YtjcpamjeekfblaaGreatDoor
open Go.RowKit Go.Shelf
theorem rep_one (c:UInt8) (new:List UInt8):∀ (n:Nat) (s:List UInt8),s.length≤n→Lib.replaceK [c] new (Lib.count s [c]) s=s.flatMap (fun x=>if x=c then new else [x]):=by
 have none_map:∀ a:List UInt8,(∀ x ∈ a,x≠c)→a.flatMap (fun x=>if x=c then new else [x])=a:=by
  intro a
  induction a with
  | nil=>intro _;rfl
  | cons b a ih =>
   intro h
   rw [List.flatMap_cons,if_neg (h b (by simp)),ih (fun x hx=>h x (by simp [hx]))]
   rfl
 have first:∀ l:List UInt8,(∀ x ∈ l,x≠c)∨∃ a r,l=a++c :: r∧∀ x ∈ a,x≠c:=by
  intro l
  induction l with
  | nil=>exact .inl (fun x h=>by simp at h)
  | cons b l ih =>
   by_cases hb:b=c
   ·exact .inr ⟨[],l,by simp [hb],fun x h=>by simp at h⟩
   ·rcases ih with h | ⟨a,r,rfl,h⟩
    ·exact .inl (fun x hx=>by
      simp at hx
      rcases hx with rfl | hx
      ·exact hb
      ·exact h x hx)
    ·exact .inr ⟨b :: a,r,rfl,fun x hx=>by
      simp at hx
      rcases hx with rfl | hx
      ·exact hb
      ·exact h x hx⟩
 intro n
 induction n with
 | zero =>
  intro s hs
  obtain rfl:s=[]:=List.length_eq_zero_iff.1 (by omega)
  rw [Lib.count_miss (by rfl)]
  rfl
 | succ n ih =>
  intro s hs
  rcases first s with h | ⟨a,r,rfl,h⟩
  ·rw [Lib.count_miss (by rw [Lib.index_one];exact idx_no s c h),none_map s h]
   rfl
  ·have hi:Lib.index (a++c :: r) [c]=(a.length:Int):=by rw [Lib.index_one];exact idx_yes a c r h
   have hd:(a++c :: r).drop (a.length+[c].length)=r:=by simp
   rw [Lib.count_hit (by simp) hi,hd,Nat.add_comm,Lib.replaceK_hit _ _ _ _ _ hi,hd,ih r (by simp at hs;omega)]
   rw [List.flatMap_append,none_map a h,List.flatMap_cons,if_pos rfl]
   simp
theorem repAll_one (c:UInt8) (new:List UInt8) (hne:([c] == new)=false) (s:List UInt8):Lib.replaceAll s [c] new=s.flatMap (fun x=>if x=c then new else [x]):=by
 unfold Lib.replaceAll Lib.replace
 rw [if_neg (by rw [hne];exact Bool.false_ne_true)]
 have:Lib.replaceNum s [c] (-1)=Lib.count s [c]:=by unfold Lib.replaceNum;rw [if_pos (.inl (by decide))]
 rw [this]
 exact rep_one c new _ s (Nat.le_refl _)
theorem wrN_two:∀ l:List UInt8,(l.flatMap (fun x=>if x=126 then [126,48] else [x])).flatMap (fun x=>if x=47 then [126,49] else [x])=wrN l
 | []=>rfl
 | c :: t=>by
  rw [List.flatMap_cons,List.flatMap_append,wrN_two t,wrN]
  by_cases h:c=126
  ·subst h
   rw [if_pos rfl,if_pos rfl]
   rfl
  ·rw [if_neg h,if_neg h]
   by_cases h2:c=47
   ·subst h2
    rw [if_pos rfl]
    rfl
   ·rw [if_neg h2,List.flatMap_cons,if_neg h2]
    rfl
theorem flat_len (f:UInt8→List UInt8) (k:Nat) (hf:∀ x,(f x).length≤k):∀ l:List UInt8,(l.flatMap f).length≤k*l.length
 | []=>by simp
 | c :: t=>by
  rw [List.flatMap_cons,List.length_append,List.length_cons]
  have h1:=flat_len f k hf t
  have h2:=hf c
  rw [Nat.mul_add,Nat.mul_one]
  omega
def MxI (w:World):Prop:=∃ m,w.cell? ⟨Tryz.laysM155_ren.g 1,0,none⟩=some (.int .i64 m)
theorem MxI.kept {w w':World} (h:MxI w) (hb:Below w.heap.size w w'):MxI w':=by
 obtain ⟨m,hm⟩:=h
 exact ⟨m,(hb.cell (p:=⟨Tryz.laysM155_ren.g 1,0,none⟩) (cell_ltT hm)).trans hm⟩
theorem MxI.below {n:Nat} {w w':World} (h:MxI w) (hb:Below n w w') (hn:∀ m,w.cell? ⟨Tryz.laysM155_ren.g 1,0,none⟩=some (.int .i64 m)→Tryz.laysM155_ren.g 1<n):MxI w':=by
 obtain ⟨m,hm⟩:=h
 exact ⟨m,(hb.cell (p:=⟨Tryz.laysM155_ren.g 1,0,none⟩) (hn m hm)).trans hm⟩
theorem MxI.of_shape {w:World} (h:w.ShapedOpen Tryz.prog):MxI w:=Tryz.laysM155.s1_3 w h
theorem repl_calls (l:List UInt8) (c:UInt8) (d:UInt8) (x:UInt8) (hl:l.length≤4294967280) (w:World) (hm:MxI w) (hne:([c] == [d,x])=false):Calls Tryz.prog 112 #[.string (mkL l),.string ⟨#[c]⟩,.string ⟨#[d,x]⟩] w fun e w'=>e = .returned (.string (mkL (l.flatMap (fun y=>if y=c then [d,x] else [y]))))∧Below w.heap.size w w':=by
 obtain ⟨m,hm⟩:=hm
 have hc:=Lib.count_le l [c]
 have h:=Any.strings_ReplaceAll Tryz.lays155 Tryz.Builder_Extra_155 (mkL l) ⟨#[c]⟩ ⟨#[d,x]⟩ m w (by rw [mkL_size];omega) hm (by show 1≤1;decide) (by
  rw [mkL_size]
  have:Lib.countB (mkL l) ⟨#[c]⟩=Lib.count l [c]:=by show Lib.count (mkL l).data.toList _=_;rw [data_mkL]
  rw [this]
  show l.length+Lib.count l [c]*2≤_
  omega)
 refine h.mono ?_
 rintro e w' ⟨rfl,hb⟩
 refine ⟨?_,hb⟩
 rw [data_mkL]
 have:=repAll_one c [d,x] hne l
 show Ending.returned (.string ⟨(Lib.replaceAll l [c] [d,x]).toArray⟩)=_
 rw [this]
 rfl
set_option maxRecDepth 10000 in
theorem written_calls20 (l:List UInt8) (hl:l.length≤2147483640) (w:World) (hm:MxI w):Calls Tryz.prog 94 #[.string (mkL l)] w fun e w'=>e = .returned (.string (mkL (wrN l)))∧Below w.heap.size w w':=by
 have hl2:=flat_len (fun y=>if y=126 then [126,48] else [y]) 2 (fun x=>by show (if x=126 then [126,48] else [x]).length≤2;split <;> simp) l
 have c1:=hid (repl_calls l 126 126 48 (by omega) w hm (by decide))
 have c2:=hid (fun (u:World) (hu:MxI u)=>repl_calls (l.flatMap (fun y=>if y=126 then [126,48] else [y])) 47 126 49 (by omega) u hu (by decide))
 rw [wrN_two] at c2
 generalize l.flatMap (fun y=>if y=126 then [126,48] else [y])=l2 at c1 c2
 generalize mkL l2=s2 at c1 c2
 generalize mkL l=s1 at c1 ⊢
 have hm':=hid hm
 clear hl hl2 hm
 go_enter Tryz.func94,Tryz.ntmps94
 go_wp2_with fail
 refine Calls.mono c1.out ?_
 rintro e w1 ⟨rfl,b1⟩
 have M1:=hid (hm'.out.kept b1)
 have B1:=hid b1
 clear b1 c1
 go_wp2_with fail
 refine Calls.mono (c2.out _ M1.out) ?_
 rintro e w2 ⟨rfl,b2⟩
 have B2:=hid (B1.out.trans (b2.mono B1.out.size))
 clear b2 c2
 go_wp2
 go_ret
 exact ⟨rfl,B2.out⟩
theorem wrL_take {L:List (List UInt8)} {i:Nat} {a:List UInt8} (h:L[i]? = some a):wrL (L.take (i+1))=wrL (L.take i)++[47]++wrN a:=by
 rw [List.take_add_one,h,wrL_app]
 simp [wrL]
theorem wrL_part (L:List (List UInt8)) (i:Nat):(wrL (L.take i)).length≤(wrL L).length:=by
 conv=>rhs;rw [← List.take_append_drop i L,wrL_app,List.length_append]
 omega
set_option maxRecDepth 10000 in
set_option maxHeartbeats 4000000 in
theorem print_calls (L:List (List UInt8)) (ao:Option Addr) (N cap:Nat) (hN:Hid (L.length=N)) (hn:N≤4294967296) (he:Hid (∀ a ∈ L,a.length≤2147483640)) (hw:Hid ((wrL L).length≤140737488355328)) (w:World) (hk:Hid (KeysAt w ao (L.map mkL))) (hm:Hid (MxI w)) :
  Calls Tryz.prog 75 #[.slice ao N cap] w fun e w'=>e = .returned (.string (mkL (wrL L)))∧Below w.heap.size w w':=by
 obtain ⟨m,hmm⟩:∃ m,Hid (w.heap.size=m):=⟨_,rfl⟩
 have hNi:(N:Int)≤4294967296:=by omega
 have D0:=hid (BdI.fresh0 w)
 have al:=hid (show Below w.heap.size w (w.alloc (.cells #[.pointer none,.slice none 0 0] 65)) from (Below.refl _ _).alloc (Nat.le_refl _) _)
 have sz0:=hid (show (w.alloc (.cells #[.pointer none,.slice none 0 0] 65)).heap.size=m+1 by rw [World.size_alloc,hmm.out])
 rw [hmm.out] at D0 al
 go_enter Tryz.func75,Tryz.ntmps75
 go_wp2
 rw [hmm.out]
 go_loopw [8] (fun ii wr=>∃ i:Nat,i≤N∧ii = .int .i64 (i:Int)∧Hid (BdI wr m (m+1) (wrL (L.take i)))∧Hid (Below m w wr)∧Hid (m+1≤wr.heap.size)) (fun ii _=>N-(intOf ii).toNat)
 case atStart=>exact ⟨0,Nat.zero_le _,rfl,D0,al,hid (Nat.le_of_eq sz0.out.symm)⟩
 case round =>
  clear D0 al sz0
  obtain ⟨i,hi,rfl,hD,hB,hz⟩:=hrel
  by_cases hlt:i<N
  ·have hii:(i:Int)<(N:Int):=by omega
   obtain ⟨a,ha⟩:∃ a,L[i]? = some a:=⟨_,List.getElem?_eq_getElem (by rw [hN.out];exact hlt)⟩
   obtain ⟨-,g,o,rfl,hg,cg⟩:=hk.out i (mkL a) (by rw [List.getElem?_map,ha];rfl)
   have hB0:Below w.heap.size w wr:=by rw [hmm.out];exact hB.out
   have s1:=(hB0.cell (p:=⟨g,o+i,none⟩) hg).trans cg
   have M1:=hid (hm.out.kept hB0)
   have hal:=he.out a (List.mem_of_getElem? ha)
   have hw1:=hid (wrL_take ha)
   have hw2:=hid (Nat.le_trans (wrL_part L (i+1)) hw.out)
   have cw:=hid (fun (u:World) (hu:MxI u)=>written_calls20 a hal u hu)
   have hsz:=hid (show (mkL (wrN a)).size+(wrL (L.take i)).length+1≤140737488355328 by have:=hw2.out;rw [hw1.out] at this;simp at this;rw [mkL_size];omega)
   have hdt:=hid (data_mkL (wrN a))
   rw [hw1.out] at hw2
   generalize mkL a=az at s1 cw
   generalize mkL (wrN a)=bz at cw hsz hdt
   generalize wrN a=wa at hw1 hw2 hdt
   clear ha cg hg hB0 hal
   go_wp2_with fail
   refine Calls.mono (bbyte_calls m (m+1) _ 47 47 rfl (Nat.lt_succ_self _) (by have:=hsz.out;omega) _ hD.out hz.out) ?_
   rintro e w1 ⟨rfl,d1,b1⟩
   have D1:=hid d1
   have B1:=hid (hB.out.trans b1)
   have z1:=hid (Nat.le_trans hz.out b1.size)
   have M2:=hid (M1.out.below b1 (fun q hq=>by
    obtain ⟨q',hq'⟩:=hm.out
    have:=cell_ltT hq'
    rw [hmm.out] at this
    exact this))
   clear d1 b1 hD hB hz M1 s1
   go_wp2_with fail
   refine Calls.mono (cw.out _ M2.out) ?_
   rintro e w2 ⟨rfl,b2⟩
   have D2:=hid (D1.out.kept b2)
   have B2:=hid (B1.out.trans (b2.mono (by have:=z1.out;omega)))
   have z2:=hid (Nat.le_trans z1.out b2.size)
   clear b2 D1 B1 z1 cw
   go_wp2_with fail
   refine Calls.mono (bstr_calls m (m+1) _ bz (Nat.lt_succ_self _) (by have:=hsz.out;simp;omega) _ D2.out z2.out) ?_
   rintro e w3 ⟨rfl,d3,b3⟩
   rw [hdt.out,← hw1.out] at d3
   have D3:=hid d3
   have B3:=hid (B2.out.trans b3)
   have z3:=hid (Nat.le_trans z2.out b3.size)
   clear d3 b3 D2 B2 z2
   go_wp2
   go_roundw
   case rel=>exact ⟨i+1,by omega,by simp,D3,B3,z3⟩
   case measure=>simp [intOf];omega
  ·obtain rfl:i=N:=by omega
   have hL:L.take i=L:=List.take_of_length_le (by rw [hN.out];exact Nat.le_refl _)
   rw [hL] at hD
   go_wp2_with fail
   refine Calls.mono (bstring_calls m (m+1) m _ _ hD.out (Nat.le_succ _) hz.out) ?_
   rintro e w3 ⟨rfl,b3,-⟩
   have B3:=hid (hB.out.trans b3)
   clear b3
   go_wp2
   go_ret
   exact ⟨rfl,by rw [hmm.out];exact B3.out⟩
end Go.Proofs.YtjcpamjeekfblaaGreatDoor

namespace Go.Proofs.YtjcpamjeekfblaaGreatDoor
open Go.RowKit Go.Shelf
def KpS (S:Nat→Prop) (B:Nat) (W W':World):Prop:=W.heap.size≤W'.heap.size∧∀ k o,(S k∨B≤k)→W.heap[k]? = some o→W'.heap[k]? = some o
theorem KpS.refl (S:Nat→Prop) (B:Nat) (W:World):KpS S B W W:=⟨Nat.le_refl _,fun _ _ _ h=>h⟩
theorem KpS.trans {S:Nat→Prop} {B:Nat} {X Y Z:World} (h:KpS S B X Y) (h':KpS S B Y Z):KpS S B X Z:=⟨Nat.le_trans h.1 h'.1,fun k o hk ho=>h'.2 k o hk (h.2 k o hk ho)⟩
theorem KpS.below {S:Nat→Prop} {B:Nat} {W W':World} (h:Below W.heap.size W W'):KpS S B W W':=⟨h.size,fun k _ _ ho=>(h.block k (Array.getElem?_eq_some_iff.1 ho).1).trans ho⟩
theorem KpS.same {S:Nat→Prop} {B:Nat} {W W':World} (h:KpS S B W W'):SameOn (fun k=>S k∨B≤k) W W':=⟨h.1,fun b hb hl=>by
 have e:W.heap[b]? = some W.heap[b]:=Array.getElem?_eq_getElem hl
 rw [h.2 b _ hb e,e]⟩
theorem KpS.at {S:Nat→Prop} {B b:Nat} {W W':World} {cs:Array Value} {t:TypeId} (h:KpS S B W W') (hA:At W b cs t) (hb:S b∨B≤b):At W' b cs t:=h.2 b _ hb hA
theorem KpS.val {S:Nat→Prop} {B:Nat} {W W':World} {t:Vt} {v:Value} (h:KpS S B W W') (hv:ValOn S W t v):ValOn S W' t v :=
 hv.kept (fun _ _ h=>h) ⟨h.1,fun b hb hl=>h.same.2 b (.inl hb) hl⟩
def KpC (S:Nat→Prop) (B c:Nat) (W W':World):Prop:=W.heap.size≤W'.heap.size∧∀ k o,(S k∨(B≤k∧k<c))→W.heap[k]? = some o→W'.heap[k]? = some o
theorem KpC.trans {S:Nat→Prop} {B c:Nat} {X Y Z:World} (h:KpC S B c X Y) (h':KpC S B c Y Z):KpC S B c X Z:=⟨Nat.le_trans h.1 h'.1,fun k o hk ho=>h'.2 k o hk (h.2 k o hk ho)⟩
theorem KpS.c {S:Nat→Prop} {B c:Nat} {W W':World} (h:KpS S B W W'):KpC S B c W W':=⟨h.1,fun k o hk ho=>h.2 k o (hk.imp id (fun h=>h.1)) ho⟩
theorem KpC.at {S:Nat→Prop} {B b c:Nat} {W W':World} {cs:Array Value} {t:TypeId} (h:KpC S B c W W') (hA:At W b cs t) (hb:S b∨(B≤b∧b<c)):At W' b cs t:=h.2 b _ hb hA
theorem KpC.from {S:Nat→Prop} {B c:Nat} {W X Y:World} (h:KpS S B W X) (h':KpC S B c X Y) (hc:W.heap.size≤c):KpS S B W Y :=
 ⟨Nat.le_trans h.1 h'.1,fun k o hk ho=>h'.2 k o (hk.imp id (fun h=>⟨h,by have:=(Array.getElem?_eq_some_iff.1 ho).1;omega⟩)) (h.2 k o hk ho)⟩
end Go.Proofs.YtjcpamjeekfblaaGreatDoor
