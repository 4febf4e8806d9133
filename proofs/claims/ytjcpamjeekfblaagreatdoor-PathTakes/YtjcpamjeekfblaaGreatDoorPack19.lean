/-
  Texts of mine that others lean on, one behind the other.
-/
import Derived.Test.YtjcpamjeekfblaaGreatDoorPack17
import Derived.Test.YtjcpamjeekfblaaGreatDoorPack2
import Derived.Lib.ItoaNum
import Derived.Test.YtjcpamjeekfblaaGreatDoorPack18
import Derived.Shelf.Strings.Replace
import Derived.Shelf.LaysM
import Derived.Test.YtjcpamjeekfblaaGreatDoorProg
import Derived.KernelRfl
namespace Go.Proofs.YtjcpamjeekfblaaGreatDoor
open Go.RowKit Go.Shelf
def stpK (k:Int) (ks:List ByteArray) (i:Nat):List UInt8:=if k=5 then Lib.itoa (i:Int) else wrN ((ks[i]?).getD ⟨#[]⟩).data.toList
mutual
def prV (p:List UInt8):Vt→List (List UInt8 × Vt)
 | .mk k b r t ks vs=>(p,.mk k b r t ks vs) :: prL p k ks 0 vs
def prL (p:List UInt8) (k:Int) (ks:List ByteArray):Nat→List Vt→List (List UInt8 × Vt)
 | _,[]=>[]
 | i,v :: vs=>prV (p++[47]++stpK k ks i) v++prL p k ks (i+1) vs
end
theorem prL_app (p:List UInt8) (k:Int) (ks:List ByteArray):∀ (a b:List Vt) (i:Nat),prL p k ks i (a++b)=prL p k ks i a++prL p k ks (i+a.length) b
 | [],b,i=>by simp [prL]
 | v :: a,b,i=>by
  rw [List.cons_append,prL,prL,prL_app p k ks a b (i+1),List.length_cons,show i+1+a.length=i+(a.length+1) by omega]
  exact (List.append_assoc _ _ _).symm
def PartAt (L:List (List UInt8 × Vt)) (r:Nat) (M:List (List UInt8 × Vt)):Prop:=∀ (i:Nat) (x:List UInt8 × Vt),M[i]? = some x→L[r+i]? = some x
theorem PartAt.head {L:List (List UInt8 × Vt)} {r:Nat} {p:List UInt8} {k:Int} {b:Bool} {rw' t:ByteArray} {ks:List ByteArray} {vs:List Vt} (h:PartAt L r (prV p (.mk k b rw' t ks vs))):L[r]? = some (p,.mk k b rw' t ks vs):=by
 have:=h 0 (p,.mk k b rw' t ks vs) (by rw [prV];rfl)
 simpa using this
theorem PartAt.kid {L:List (List UInt8 × Vt)} {r:Nat} {p:List UInt8} {k:Int} {b:Bool} {rw' t:ByteArray} {ks:List ByteArray} {vs:List Vt} (h:PartAt L r (prV p (.mk k b rw' t ks vs))) {i:Nat} {u:Vt} (hu:vs[i]? = some u) :
  PartAt L (r+1+(prL p k ks 0 (vs.take i)).length) (prV (p++[47]++stpK k ks i) u):=by
 intro j x hx
 have:=h (1+(prL p k ks 0 (vs.take i)).length+j) x ?_
 ·rw [← this];congr 1;omega
 ·rw [prV,show 1+(prL p k ks 0 (vs.take i)).length+j=((prL p k ks 0 (vs.take i)).length+j)+1 by omega,List.getElem?_cons_succ]
  have e:vs=vs.take i++(u :: vs.drop (i+1)):=by
   conv=>lhs;rw [← List.take_append_drop i vs,List.drop_eq_getElem_cons (List.getElem?_eq_some_iff.1 hu).1,(List.getElem?_eq_some_iff.1 hu).2]
  have hi:i<vs.length:=(List.getElem?_eq_some_iff.1 hu).1
  have hl:(vs.take i).length=i:=by rw [List.length_take];omega
  have e2:prL p k ks 0 vs=prL p k ks 0 (vs.take i)++(prV (p++[47]++stpK k ks i) u++prL p k ks (i+1) (vs.drop (i+1))):=by
   conv=>lhs;rw [e,prL_app,hl,Nat.zero_add,prL]
  have hj:j<(prV (p++[47]++stpK k ks i) u).length:=(List.getElem?_eq_some_iff.1 hx).1
  rw [e2,List.getElem?_append_right (by omega),show (prL p k ks 0 (vs.take i)).length+j-(prL p k ks 0 (vs.take i)).length=j by omega,List.getElem?_append_left hj]
  exact hx
mutual
def okP:Vt→Prop
 | .mk k _ _ _ ks vs=>(∀ i,i<vs.length→k=5∨(k≠5∧∃ s,ks[i]? = some s∧s.size≤2147483640))∧vs.length≤1099511627776∧okPL vs
def okPL:List Vt→Prop
 | []=>True
 | v :: vs=>okP v∧okPL vs
end
theorem okPL_get:∀ {vs:List Vt} {i:Nat} {u:Vt},okPL vs→vs[i]? = some u→okP u
 | [],i,u,_,h=>by simp at h
 | v :: vs,i,u,hs,h=>by
  unfold okPL at hs
  cases i with
  | zero=>simp at h;subst h;exact hs.1
  | succ i=>exact okPL_get hs.2 (by simpa using h)
end Go.Proofs.YtjcpamjeekfblaaGreatDoor

namespace Go.Proofs.YtjcpamjeekfblaaGreatDoor
open Go.RowKit Go.Shelf
theorem BdI.fresh0 (w:World):BdI (w.alloc (.cells #[.pointer none,.slice none 0 0] 65)) w.heap.size (w.heap.size+1) [] :=
 ⟨_,_,At.new w _ _,.inl rfl,by simpa [Lib.byteCells] using World.ownsRow_nil (w.alloc (.cells #[.pointer none,.slice none 0 0] 65)) (w.heap.size+1) 5 1⟩
def szOf:Value→Nat
 | .string s=>s.size
 | _=>0
def MnS (l acc r:List UInt8) (more:Bool):Prop:=(more=true→mnL l=(mnL (126 :: r)).map (acc ++ ·))∧(more=false→mnL l=some acc)∧acc.length+r.length≤l.length
theorem MnS.start_no {l:List UInt8} (h:∀ x ∈ l,x≠126):MnS l l [] false:=⟨fun h=>(by cases h),fun _=>by have:=mnL_pre l h [];simpa [mnL] using this,by simp⟩
theorem MnS.start_yes {a r:List UInt8} (h:∀ x ∈ a,x≠126):MnS (a++126 :: r) a r true:=⟨fun _=>mnL_pre a h _,fun h=>(by cases h),by simp⟩
theorem MnS.bad {l acc r:List UInt8} (h:MnS l acc r true) (hr:(tlC r).2=false):mnL l=none:=by
 rw [h.1 rfl]
 cases r with
 | nil=>rw [mnL_none];rfl
 | cons d t =>
  rw [mnL_til]
  have h1:d≠49:=fun e=>by subst e;simp [tlC] at hr
  have h2:d≠48:=fun e=>by subst e;simp [tlC] at hr
  rw [if_neg h2,if_neg h1]
  rfl
theorem MnS.next {l acc r:List UInt8} (h:MnS l acc r true) (hr:(tlC r).2=true):∃ d t,r=d :: t∧(tlC r).1<256∧mnL l=(mnL t).map ((acc++[UInt8.ofNat (tlC r).1]) ++ ·):=by
 cases r with
 | nil=>cases hr
 | cons d t =>
  by_cases h1:d=49
  ·subst h1
   refine ⟨49,t,rfl,show (47:Nat)<256 by decide,?_⟩
   rw [h.1 rfl,mnL_til,if_neg (by decide),if_pos rfl]
   show _=Option.map (fun x=>acc++[47]++x) (mnL t)
   cases mnL t <;> simp
  ·by_cases h2:d=48
   ·subst h2
    refine ⟨48,t,rfl,show (126:Nat)<256 by decide,?_⟩
    rw [h.1 rfl,mnL_til,if_pos rfl]
    show _=Option.map (fun x=>acc++[126]++x) (mnL t)
    cases mnL t <;> simp
   ·exfalso
    simp [tlC,h1,h2] at hr
theorem MnS.go_no {l acc t:List UInt8} (h:mnL l=(mnL t).map (acc ++ ·)) (ht:∀ x ∈ t,x≠126) (hl:acc.length+t.length≤l.length):MnS l (acc++t) [] false :=
 ⟨fun h=>(by cases h),fun _=>by rw [h];have:=mnL_pre t ht [];simp [mnL] at this;rw [this];rfl,by simp;omega⟩
theorem MnS.go_yes {l acc a r:List UInt8} (h:mnL l=(mnL (a++126 :: r)).map (acc ++ ·)) (ht:∀ x ∈ a,x≠126) (hl:acc.length+(a++126 :: r).length≤l.length):MnS l (acc++a) r true :=
 ⟨fun _=>by rw [h,mnL_pre a ht];cases mnL (126 :: r) <;> simp,fun h=>(by cases h),by simp at hl ⊢;omega⟩
theorem cutT_any (l:List UInt8) (hl:l.length≤4294967296):∃ a r more,Hid (∀ w:World,Calls Tryz.prog 131 #[.string (mkL l),.string ⟨#[126]⟩] w fun e w'=>e = .returned (.tuple #[.string (mkL a),.string (mkL r),.bool more])∧Below w.heap.size w w')∧Hid (a.length+r.length≤l.length)∧Hid (MnS l a r more)∧Hid (∀ (L acc:List UInt8),mnL L=(mnL l).map (acc ++ ·)→acc.length+l.length≤L.length→MnS L (acc++a) r more):=by
 rcases first_til l with h | ⟨a,r,rfl,h⟩
 ·exact ⟨l,[],false,hid (fun w=>cutT_no l h w),hid (by simp),hid (MnS.start_no h),hid (fun L acc h1 h2=>MnS.go_no h1 h h2)⟩
 ·exact ⟨a,r,true,hid (fun w=>cutT_yes a r hl h w),hid (by simp),hid (MnS.start_yes h),hid (fun L acc h1 h2=>MnS.go_yes h1 h h2)⟩
set_option maxRecDepth 10000 in
set_option maxHeartbeats 4000000 in
theorem meant_calls (l:List UInt8) (hl:l.length≤4294967296) (w:World):Calls Tryz.prog 110 #[.string (mkL l)] w fun e w'=>e = .returned (.tuple #[.string (mkL ((mnL l).getD [])),.bool (mnL l).isSome])∧Below w.heap.size w w':=by
 obtain ⟨a,r,more,hc,hz,hm0,-⟩:=cutT_any l hl
 obtain ⟨m,hm⟩:∃ m,Hid (w.heap.size=m):=⟨_,rfl⟩
 have D0:=hid (BdI.fresh0 w)
 have al:=hid (show Below w.heap.size w (w.alloc (.cells #[.pointer none,.slice none 0 0] 65)) from (Below.refl _ _).alloc (Nat.le_refl _) _)
 have sz0:=hid (show (w.alloc (.cells #[.pointer none,.slice none 0 0] 65)).heap.size=m+1 by rw [World.size_alloc,hm.out])
 rw [hm.out] at D0 al
 obtain ⟨s0,hs0⟩:∃ s,Hid (mkL l=s):=⟨_,rfl⟩
 rw [hs0.out] at hc ⊢
 have hl':=hid hl
 clear hl hs0
 go_enter Tryz.func110,Tryz.ntmps110
 go_wp2_with fail
 refine Calls.mono (hc.out _) ?_
 rintro e w1 ⟨rfl,b1⟩
 rw [hm.out]
 have D1:=hid (D0.out.kept b1)
 have B1:=hid (al.out.trans (b1.mono (by rw [sz0.out];omega)))
 have z1:=hid (Nat.le_trans (Nat.le_of_eq sz0.out.symm) b1.size)
 clear b1 D0 al sz0 hc
 go_wp2_with fail
 refine Calls.mono (bstr_calls m (m+1) [] (mkL a) (Nat.lt_succ_self _) (by have:=hz.out;have:=hl'.out;rw [mkL_size];simp;omega) _ D1.out z1.out) ?_
 rintro e w2 ⟨rfl,d2,b2⟩
 have D2:=hid (show BdI w2 m (m+1) a by simpa [data_mkL] using d2)
 have B2:=hid (B1.out.trans b2)
 have z2:=hid (Nat.le_trans z1.out b2.size)
 clear d2 b2 D1 B1 z1
 go_wp2
 go_loopw [6,7] (fun rr mm wr=>∃ (acc r:List UInt8) (more:Bool),rr = .string (mkL r)∧mm = .bool more∧Hid (MnS l acc r more)∧Hid (BdI wr m (m+1) acc)∧Hid (Below m w wr)∧Hid (m+1≤wr.heap.size)) (fun rr _ _=>szOf rr)
 case atStart=>exact ⟨a,r,more,rfl,rfl,hm0,D2,B2,z2⟩
 case round =>
  clear D2 B2 z2 hm0 hz
  obtain ⟨acc,r,more,rfl,rfl,hM,hD,hB,hz⟩:=hrel
  cases more with
  | false =>
   have hv:=hid (hM.out.2.1 rfl)
   go_wp2_with fail
   refine Calls.mono (bstring_calls m (m+1) m acc _ hD.out (Nat.le_succ _) hz.out) ?_
   rintro e w3 ⟨rfl,b3,-⟩
   have B3:=hid (hB.out.trans b3)
   clear b3
   go_wp2
   go_ret2
   exact ⟨by rw [hv.out];rfl,by rw [hm.out];exact B3.out⟩
  | true =>
   have ct:=hid (fun u:World=>tilde_calls r u)
   cases hok:(tlC r).2 with
   | false =>
    have hv:=hid (hM.out.bad hok)
    rw [hok] at ct
    obtain ⟨c,hc⟩:∃ c,(tlC r).1=c:=⟨_,rfl⟩
    rw [hc] at ct
    clear hok hc
    go_wp2_with fail
    refine Calls.mono (ct.out _) ?_
    rintro e w3 ⟨rfl,rfl⟩
    go_wp2
    go_ret2
    exact ⟨by rw [hv.out];rfl,by rw [hm.out];exact hB.out⟩
   | true =>
    obtain ⟨d,t,hr,hc256,hmn⟩:=hM.out.next hok
    have hlen:=hM.out.2.2
    rw [hok] at ct
    obtain ⟨c,hc⟩:∃ c,(tlC r).1=c:=⟨_,rfl⟩
    rw [hc] at ct hc256 hmn
    have hll:=hl'.out
    have hrl:r.length=t.length+1:=by rw [hr];rfl
    obtain ⟨a',r',more',hcc,hz',-,hgo⟩:=cutT_any t (by omega)
    have e1:(mkL r).extract 1 (mkL r).size=mkL t:=by
     rw [mkL_ext,mkL_size,hr]
     congr 1
     simp
    have e1':=hid e1
    have hS:=hid (hgo.out l _ hmn (by simp;omega))
    have hs1:1≤(mkL r).size:=by rw [mkL_size];omega
    have hsr:=hid (show (mkL r').size<(mkL r).size by rw [mkL_size,mkL_size];have:=hz'.out;omega)
    have hla:=hid (show acc.length+1+(mkL a').size≤140737488355328 by rw [mkL_size];have:=hz'.out;omega)
    rw [← e1] at hcc
    obtain ⟨s,hs⟩:∃ s,mkL r=s:=⟨_,rfl⟩
    rw [hs] at ct hcc hs1 hsr ⊢
    clear hok hc e1 e1' hs hr hmn hlen hll hrl hgo hM hz'
    go_wp2_with fail
    refine Calls.mono (ct.out _) ?_
    rintro e w3 ⟨rfl,rfl⟩
    go_wp2_with fail
    refine Calls.mono (bbyte_calls m (m+1) acc (UInt8.ofNat c) (c:Int) (by simp [UInt8.toNat_ofNat'];omega) (Nat.lt_succ_self _) (by have:=hla.out;omega) _ hD.out hz.out) ?_
    rintro e w4 ⟨rfl,d4,b4⟩
    have D4:=hid d4
    have B4:=hid (hB.out.trans b4)
    have z4:=hid (Nat.le_trans hz.out b4.size)
    clear d4 b4 hD hB hz
    go_wp2_with fail
    refine Calls.mono (hcc.out _) ?_
    rintro e w5 ⟨rfl,b5⟩
    have D5:=hid (D4.out.kept b5)
    have B5:=hid (B4.out.trans (b5.mono (by have:=z4.out;omega)))
    have z5:=hid (Nat.le_trans z4.out b5.size)
    clear b5 D4 B4 z4
    go_wp2_with fail
    refine Calls.mono (bstr_calls m (m+1) (acc++[UInt8.ofNat c]) (mkL a') (Nat.lt_succ_self _) (by have:=hla.out;simp;omega) _ D5.out z5.out) ?_
    rintro e w6 ⟨rfl,d6,b6⟩
    have D6:=hid (show BdI w6 m (m+1) (acc++[UInt8.ofNat c]++a') by simpa [data_mkL] using d6)
    have B6:=hid (B5.out.trans b6)
    have z6:=hid (Nat.le_trans z5.out b6.size)
    clear d6 b6 D5 B5 z5
    go_wp2
    go_roundw
    case rel=>exact ⟨_,r',more',rfl,rfl,hS,D6,B6,z6⟩
    case measure=>exact hsr.out
end Go.Proofs.YtjcpamjeekfblaaGreatDoor

namespace Go.Proofs
open Go.Shelf
def Tryz.lays155_ren:Go.Shelf.Ren:=⟨fun | 155=>112 | 154=>133 | 138=>148 | 165=>149 | 143=>150 | 166=>28 | 197=>151 | 169=>31 | 195=>160 | 218=>161 | 240=>48 | 241=>162 | 219=>159 | 260=>163 | 276=>77 | 277=>181 | 217=>177 | 225=>178 | 224=>179 | 267=>180 | 266=>197 | 314=>198 | n=>n,fun | 9=>9 | 3=>3 | 4=>4 | 72=>65 | 0=>0 | 76=>69 | 105=>186 | 21=>21 | 5=>5 | 70=>62 | 20=>20 | 37=>63 | 75=>67 | 127=>90 | 164=>103 | 46=>116 | 119=>112 | 139=>115 | 138=>114 | 146=>218 | 51=>154 | 80=>73 | n=>n,fun | 1=>5 | 3=>0 | 4=>1 | n=>n⟩
theorem Tryz.lays155:Go.Proofs.Lays.n155 Tryz.prog Tryz.lays155_ren:={
  mixed:=by kernel_rfl
  f138:=Tryz.func148.trans (congrArg some (by kernel_rfl))
  f143:=Tryz.func150.trans (congrArg some (by kernel_rfl))
  f154:=Tryz.func133.trans (congrArg some (by kernel_rfl))
  f155:=Tryz.func112.trans (congrArg some (by kernel_rfl))
  f165:=Tryz.func149.trans (congrArg some (by kernel_rfl))
  f166:=Tryz.func28.trans (congrArg some (by kernel_rfl))
  f169:=Tryz.func31.trans (congrArg some (by kernel_rfl))
  f195:=Tryz.func160.trans (congrArg some (by kernel_rfl))
  f197:=Tryz.func151.trans (congrArg some (by kernel_rfl))
  f217:=Tryz.func177.trans (congrArg some (by kernel_rfl))
  f218:=Tryz.func161.trans (congrArg some (by kernel_rfl))
  f219:=Tryz.func159.trans (congrArg some (by kernel_rfl))
  f224:=Tryz.func179.trans (congrArg some (by kernel_rfl))
  f225:=Tryz.func178.trans (congrArg some (by kernel_rfl))
  f240:=Tryz.func48.trans (congrArg some (by kernel_rfl))
  f241:=Tryz.func162.trans (congrArg some (by kernel_rfl))
  f260:=Tryz.func163.trans (congrArg some (by kernel_rfl))
  f266:=Tryz.func197.trans (congrArg some (by kernel_rfl))
  f267:=Tryz.func180.trans (congrArg some (by kernel_rfl))
  f276:=Tryz.func77.trans (congrArg some (by kernel_rfl))
  f277:=Tryz.func181.trans (congrArg some (by kernel_rfl))
  f314:=Tryz.func198.trans (congrArg some (by kernel_rfl))
  t0:=Tryz.underlying0
  a0:=Tryz.isAgg0
  z0:=Tryz.sizeOf0
  v0:=Tryz.zeroValue0
  t3:=Tryz.underlying3
  a3:=Tryz.isAgg3
  z3:=Tryz.sizeOf3
  v3:=Tryz.zeroValue3
  t4:=Tryz.underlying4
  a4:=Tryz.isAgg4
  z4:=Tryz.sizeOf4
  v4:=Tryz.zeroValue4
  t5:=Tryz.underlying5
  a5:=Tryz.isAgg5
  z5:=Tryz.sizeOf5
  v5:=Tryz.zeroValue5
  t9:=Tryz.underlying9
  a9:=Tryz.isAgg9
  z9:=Tryz.sizeOf9
  v9:=Tryz.zeroValue9
  t20:=Tryz.underlying20
  a20:=Tryz.isAgg20
  z20:=Tryz.sizeOf20
  v20:=Tryz.zeroValue20
  t21:=Tryz.underlying21
  a21:=Tryz.isAgg21
  z21:=Tryz.sizeOf21
  v21:=Tryz.zeroValue21
  t37:=Tryz.underlying63
  a37:=Tryz.isAgg63
  z37:=Tryz.sizeOf63
  v37:=Tryz.zeroValue63
  t46:=Tryz.underlying116
  a46:=Tryz.isAgg116
  z46:=Tryz.sizeOf116
  v46:=Tryz.zeroValue116
  t51:=Tryz.underlying154
  a51:=Tryz.isAgg154
  z51:=Tryz.sizeOf154
  v51:=Tryz.zeroValue154
  t70:=Tryz.underlying62
  a70:=Tryz.isAgg62
  z70:=Tryz.sizeOf62
  v70:=Tryz.zeroValue62
  t72:=Tryz.underlying65
  a72:=Tryz.isAgg65
  z72:=Tryz.sizeOf65
  v72:=Tryz.zeroValue65
  t75:=Tryz.underlying67
  a75:=Tryz.isAgg67
  z75:=Tryz.sizeOf67
  v75:=Tryz.zeroValue67
  t76:=Tryz.underlying69
  a76:=Tryz.isAgg69
  z76:=Tryz.sizeOf69
  v76:=Tryz.zeroValue69
  t105:=Tryz.underlying186
  a105:=Tryz.isAgg186
  z105:=Tryz.sizeOf186
  v105:=Tryz.zeroValue186
  t119:=Tryz.underlying112
  a119:=Tryz.isAgg112
  z119:=Tryz.sizeOf112
  t127:=Tryz.underlying90
  a127:=Tryz.isAgg90
  z127:=Tryz.sizeOf90
  v127:=Tryz.zeroValue90
  t138:=Tryz.underlying114
  a138:=Tryz.isAgg114
  z138:=Tryz.sizeOf114
  v138:=Tryz.zeroValue114
  t139:=Tryz.underlying115
  a139:=Tryz.isAgg115
  z139:=Tryz.sizeOf115
  v139:=Tryz.zeroValue115
  t146:=Tryz.underlying218
  a146:=Tryz.isAgg218
  z146:=Tryz.sizeOf218
  v146:=Tryz.zeroValue218
  t164:=Tryz.underlying103
  a164:=Tryz.isAgg103
  z164:=Tryz.sizeOf103
  v164:=Tryz.zeroValue103
  g1:=by kernel_rfl
  g3:=by kernel_rfl
  g4:=by kernel_rfl }
def Tryz.laysM155_ren:Go.Shelf.Ren:=⟨fun | 155=>112 | 154=>133 | 138=>148 | 165=>149 | 143=>150 | 166=>28 | 197=>151 | 169=>31 | 195=>160 | 218=>161 | 240=>48 | 241=>162 | 219=>159 | 260=>163 | 276=>77 | 277=>181 | 217=>177 | 225=>178 | 224=>179 | 267=>180 | 266=>197 | 314=>198 | n=>n,fun | 9=>9 | 3=>3 | 4=>4 | 72=>65 | 0=>0 | 76=>69 | 105=>186 | 21=>21 | 5=>5 | 70=>62 | 20=>20 | 37=>63 | 75=>67 | 127=>90 | 164=>103 | 46=>116 | 119=>112 | 139=>115 | 138=>114 | 146=>218 | 51=>154 | 80=>73 | n=>n,fun | 1=>5 | 3=>0 | 4=>1 | n=>n⟩
theorem Tryz.laysM155:Go.Proofs.LaysM.n155 Tryz.prog Tryz.laysM155_ren:={
  mixed:=by kernel_rfl
  f138:=Tryz.func148.trans (congrArg some (by kernel_rfl))
  f143:=Tryz.func150.trans (congrArg some (by kernel_rfl))
  f154:=Tryz.func133.trans (congrArg some (by kernel_rfl))
  f155:=Tryz.func112.trans (congrArg some (by kernel_rfl))
  f165:=Tryz.func149.trans (congrArg some (by kernel_rfl))
  f166:=Tryz.func28.trans (congrArg some (by kernel_rfl))
  f169:=Tryz.func31.trans (congrArg some (by kernel_rfl))
  f195:=Tryz.func160.trans (congrArg some (by kernel_rfl))
  f197:=Tryz.func151.trans (congrArg some (by kernel_rfl))
  f217:=Tryz.func177.trans (congrArg some (by kernel_rfl))
  f218:=Tryz.func161.trans (congrArg some (by kernel_rfl))
  f219:=Tryz.func159.trans (congrArg some (by kernel_rfl))
  f224:=Tryz.func179.trans (congrArg some (by kernel_rfl))
  f225:=Tryz.func178.trans (congrArg some (by kernel_rfl))
  f240:=Tryz.func48.trans (congrArg some (by kernel_rfl))
  f241:=Tryz.func162.trans (congrArg some (by kernel_rfl))
  f260:=Tryz.func163.trans (congrArg some (by kernel_rfl))
  f266:=Tryz.func197.trans (congrArg some (by kernel_rfl))
  f267:=Tryz.func180.trans (congrArg some (by kernel_rfl))
  f276:=Tryz.func77.trans (congrArg some (by kernel_rfl))
  f277:=Tryz.func181.trans (congrArg some (by kernel_rfl))
  f314:=Tryz.func198.trans (congrArg some (by kernel_rfl))
  t0:=Tryz.underlying0
  a0:=Tryz.isAgg0
  z0:=Tryz.sizeOf0
  v0:=Tryz.zeroValue0
  t3:=Tryz.underlying3
  a3:=Tryz.isAgg3
  z3:=Tryz.sizeOf3
  v3:=Tryz.zeroValue3
  t4:=Tryz.underlying4
  a4:=Tryz.isAgg4
  z4:=Tryz.sizeOf4
  v4:=Tryz.zeroValue4
  t5:=Tryz.underlying5
  a5:=Tryz.isAgg5
  z5:=Tryz.sizeOf5
  v5:=Tryz.zeroValue5
  t9:=Tryz.underlying9
  a9:=Tryz.isAgg9
  z9:=Tryz.sizeOf9
  v9:=Tryz.zeroValue9
  t20:=Tryz.underlying20
  a20:=Tryz.isAgg20
  z20:=Tryz.sizeOf20
  v20:=Tryz.zeroValue20
  t21:=Tryz.underlying21
  a21:=Tryz.isAgg21
  z21:=Tryz.sizeOf21
  v21:=Tryz.zeroValue21
  t37:=Tryz.underlying63
  a37:=Tryz.isAgg63
  z37:=Tryz.sizeOf63
  v37:=Tryz.zeroValue63
  t46:=Tryz.underlying116
  a46:=Tryz.isAgg116
  z46:=Tryz.sizeOf116
  v46:=Tryz.zeroValue116
  t51:=Tryz.underlying154
  a51:=Tryz.isAgg154
  z51:=Tryz.sizeOf154
  v51:=Tryz.zeroValue154
  t70:=Tryz.underlying62
  a70:=Tryz.isAgg62
  z70:=Tryz.sizeOf62
  v70:=Tryz.zeroValue62
  t72:=Tryz.underlying65
  a72:=Tryz.isAgg65
  z72:=Tryz.sizeOf65
  v72:=Tryz.zeroValue65
  t75:=Tryz.underlying67
  a75:=Tryz.isAgg67
  z75:=Tryz.sizeOf67
  v75:=Tryz.zeroValue67
  t76:=Tryz.underlying69
  a76:=Tryz.isAgg69
  z76:=Tryz.sizeOf69
  v76:=Tryz.zeroValue69
  t105:=Tryz.underlying186
  a105:=Tryz.isAgg186
  z105:=Tryz.sizeOf186
  v105:=Tryz.zeroValue186
  t119:=Tryz.underlying112
  a119:=Tryz.isAgg112
  z119:=Tryz.sizeOf112
  t127:=Tryz.underlying90
  a127:=Tryz.isAgg90
  z127:=Tryz.sizeOf90
  v127:=Tryz.zeroValue90
  t138:=Tryz.underlying114
  a138:=Tryz.isAgg114
  z138:=Tryz.sizeOf114
  v138:=Tryz.zeroValue114
  t139:=Tryz.underlying115
  a139:=Tryz.isAgg115
  z139:=Tryz.sizeOf115
  v139:=Tryz.zeroValue115
  t146:=Tryz.underlying218
  a146:=Tryz.isAgg218
  z146:=Tryz.sizeOf218
  v146:=Tryz.zeroValue218
  t164:=Tryz.underlying103
  a164:=Tryz.isAgg103
  z164:=Tryz.sizeOf103
  v164:=Tryz.zeroValue103
  g1:=by kernel_rfl
  g3:=by kernel_rfl
  g4:=by kernel_rfl
  t80:=Tryz.underlying73
  a80:=Tryz.isAgg73
  z80:=Tryz.sizeOf73
  v80:=Tryz.zeroValue73
  i0:=by kernel_rfl
  i3:=by kernel_rfl
  i4:=by kernel_rfl
  i5:=by kernel_rfl
  i9:=by kernel_rfl
  i20:=by kernel_rfl
  i21:=by kernel_rfl
  i37:=by kernel_rfl
  i46:=by kernel_rfl
  i51:=by kernel_rfl
  i70:=by kernel_rfl
  i72:=by kernel_rfl
  i75:=by kernel_rfl
  i76:=by kernel_rfl
  i80:=by kernel_rfl
  i105:=by kernel_rfl
  i127:=by kernel_rfl
  i138:=by kernel_rfl
  i139:=by kernel_rfl
  i146:=by kernel_rfl
  i164:=by kernel_rfl
  m1:=by kernel_rfl
  s1_3:=fun w h=>Go.Proofs.cell_of_shapedOpen_int (zero:=#[.int .i64 0]) (t:=3) h (of_decide_eq_true (by kernel_rfl)) (by kernel_rfl) rfl (by kernel_rfl) (by kernel_rfl) Tryz.underlying3
  m3:=by kernel_rfl
  m4:=by kernel_rfl }
theorem Tryz.Builder_Extra_155:Builder.Extra Tryz.prog Tryz.lays155_ren:={
  sizeBuilder:=by kernel_rfl
  liesBuilder:=by kernel_rfl
  t5:=Tryz.underlying5
  a5:=Tryz.isAgg5
  z5:=Tryz.sizeOf5
  v5:=Tryz.zeroValue5
  infoByte:=by kernel_rfl
  cellsByte:=by kernel_rfl
  sizeByte:=by kernel_rfl
  neB5:=by decide }
end Go.Proofs
