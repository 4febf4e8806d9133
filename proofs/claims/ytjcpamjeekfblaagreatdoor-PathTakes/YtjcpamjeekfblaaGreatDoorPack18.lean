/-
  Texts of mine that others lean on, one behind the other.
-/
import Derived.Shelf.Strings.Search2
import Derived.Test.YtjcpamjeekfblaaGreatDoorProg
import Derived.KernelRfl
import Derived.Test.YtjcpamjeekfblaaGreatDoorPack17
import Derived.Test.YtjcpamjeekfblaaGreatDoorPack4
import Derived.Test.YtjcpamjeekfblaaGreatDoorPack12
import Derived.Lib.IndexBytes
import Derived.Test.YtjcpamjeekfblaaGreatDoorPack3
import Derived.Test.YtjcpamjeekfblaaGreatDoorPack16
import Derived.Test.YtjcpamjeekfblaaGreatDoorPack1
import Derived.RangeFuncNested
namespace Go.Proofs
open Go.Shelf
def Tryz.lays219_ren:Go.Shelf.Ren:=⟨fun | 219=>159 | 217=>177 | 225=>178 | 224=>179 | 267=>180 | 266=>197 | 314=>198 | n=>n,fun | 9=>9 | 3=>3 | 4=>4 | 5=>5 | 46=>116 | 146=>218 | 51=>154 | n=>n,fun | 1=>5 | n=>n⟩
theorem Tryz.lays219:Go.Proofs.Lays.n219 Tryz.prog Tryz.lays219_ren:={
  mixed:=by kernel_rfl
  f217:=Tryz.func177.trans (congrArg some (by kernel_rfl))
  f219:=Tryz.func159.trans (congrArg some (by kernel_rfl))
  f224:=Tryz.func179.trans (congrArg some (by kernel_rfl))
  f225:=Tryz.func178.trans (congrArg some (by kernel_rfl))
  f266:=Tryz.func197.trans (congrArg some (by kernel_rfl))
  f267:=Tryz.func180.trans (congrArg some (by kernel_rfl))
  f314:=Tryz.func198.trans (congrArg some (by kernel_rfl))
  t3:=Tryz.underlying3
  a3:=Tryz.isAgg3
  z3:=Tryz.sizeOf3
  v3:=Tryz.zeroValue3
  t4:=Tryz.underlying4
  a4:=Tryz.isAgg4
  z4:=Tryz.sizeOf4
  v4:=Tryz.zeroValue4
  t5:=Tryz.underlying5
  a5:=Tryz.isAgg5
  z5:=Tryz.sizeOf5
  v5:=Tryz.zeroValue5
  t9:=Tryz.underlying9
  a9:=Tryz.isAgg9
  z9:=Tryz.sizeOf9
  v9:=Tryz.zeroValue9
  t46:=Tryz.underlying116
  a46:=Tryz.isAgg116
  z46:=Tryz.sizeOf116
  v46:=Tryz.zeroValue116
  t51:=Tryz.underlying154
  a51:=Tryz.isAgg154
  z51:=Tryz.sizeOf154
  v51:=Tryz.zeroValue154
  t146:=Tryz.underlying218
  a146:=Tryz.isAgg218
  z146:=Tryz.sizeOf218
  v146:=Tryz.zeroValue218
  g1:=by kernel_rfl }
end Go.Proofs

namespace Go.Proofs.YtjcpamjeekfblaaGreatDoor
open Go.RowKit Go.Shelf
def mkL (l:List UInt8):ByteArray:=⟨l.toArray⟩
theorem mkL_data (s:ByteArray):mkL s.data.toList=s:=by unfold mkL;simp
theorem mkL_size (l:List UInt8):(mkL l).size=l.length:=by show l.toArray.size=_;simp
theorem data_mkL (l:List UInt8):(mkL l).data.toList=l:=by unfold mkL;simp
theorem mkL_ext (l:List UInt8) (a b:Nat):(mkL l).extract a b=mkL ((l.drop a).take (b-a)):=by
 apply ByteArray.ext
 apply Array.toList_inj.1
 rw [ByteArray.data_extract,Array.toList_extract]
 rfl
theorem lk_mkL (l:List UInt8) (i:Nat) (x:UInt8) (h:l[i]? = some x):lk (mkL l) i=x.toNat:=by
 have hi:i<l.length:=(List.getElem?_eq_some_iff.1 h).1
 rw [lk_at _ i (by rw [mkL_size];exact hi)]
 congr 1
 have h2:=(List.getElem?_eq_some_iff.1 h).2
 exact h2
theorem idx_no:∀ (l:List UInt8) (c:UInt8),(∀ x ∈ l,x≠c)→Lib.indexByte l c = -1
 | [],_,_=>rfl
 | b :: l,c,h=>by
  have h1:(b == c)=false:=beq_eq_false_iff_ne.2 (h b (by simp))
  have h2:=idx_no l c (fun x hx=>h x (by simp [hx]))
  unfold Lib.indexByte
  rw [h1,h2]
  rfl
theorem idx_yes:∀ (a:List UInt8) (c:UInt8) (r:List UInt8),(∀ x ∈ a,x≠c)→Lib.indexByte (a++c :: r) c=(a.length:Int)
 | [],c,r,_=>by
  show Lib.indexByte (c :: r) c=0
  unfold Lib.indexByte
  rw [beq_self_eq_true]
  rfl
 | b :: a,c,r,h=>by
  have h1:(b == c)=false:=beq_eq_false_iff_ne.2 (h b (by simp))
  have h2:=idx_yes a c r (fun x hx=>h x (by simp [hx]))
  rw [List.cons_append]
  unfold Lib.indexByte
  rw [h1,h2]
  have h3:((a.length:Int) == -1)=false:=beq_eq_false_iff_ne.2 (by omega)
  rw [h3]
  simp
theorem first_til:∀ l:List UInt8,(∀ x ∈ l,x≠126)∨∃ a r,l=a++126 :: r∧∀ x ∈ a,x≠126
 | []=>.inl (fun x h=>by simp at h)
 | b :: l=>by
  by_cases hb:b=126
  ·exact .inr ⟨[],l,by simp [hb],fun x h=>by simp at h⟩
  ·rcases first_til l with h | ⟨a,r,rfl,h⟩
   ·exact .inl (fun x hx=>by
     simp at hx
     rcases hx with rfl | hx
     ·exact hb
     ·exact h x hx)
   ·exact .inr ⟨b :: a,r,rfl,fun x hx=>by
     simp at hx
     rcases hx with rfl | hx
     ·exact hb
     ·exact h x hx⟩
theorem mnL_pre:∀ (a:List UInt8),(∀ x ∈ a,x≠126)→∀ t,mnL (a++t)=(mnL t).map (a ++ ·)
 | [],_,t=>by cases h:mnL t <;> simp [h]
 | b :: a,h,t=>by
  rw [List.cons_append,mnL_plain (h b (by simp)),mnL_pre a (fun x hx=>h x (by simp [hx])) t]
  cases mnL t <;> rfl
set_option maxRecDepth 10000 in
set_option maxHeartbeats 2000000 in
theorem cutS_no (l:List UInt8) (h:∀ x ∈ l,x≠126) (w:World):Calls Tryz.prog 147 #[.string (mkL l),.string ⟨#[126]⟩] w fun e w'=>e = .returned (.tuple #[.string (mkL l),.string (mkL []),.bool false])∧w'=w:=by
 have c1:=hid (fun u:World=>Any.stringslite_Index_one Tryz.lays219 (mkL l) 126 u)
 have hi:=idx_no l 126 h
 have hi':Lib.indexByte (mkL l).data.toList 126 = -1:=by rw [data_mkL];exact hi
 rw [hi'] at c1
 clear hi hi' h
 obtain ⟨s,hs⟩:∃ s,mkL l=s:=⟨_,rfl⟩
 rw [hs] at c1 ⊢
 clear hs
 go_enter Tryz.func147,Tryz.ntmps147
 go_wp2_with fail
 refine Calls.mono (c1.out _) ?_
 rintro e w1 ⟨rfl,rfl⟩
 go_wp2
 go_ret3
 exact ⟨rfl,rfl⟩
set_option maxRecDepth 10000 in
set_option maxHeartbeats 2000000 in
theorem cutS_yes (a r:List UInt8) (hl:(a++126 :: r).length≤4294967296) (h:∀ x ∈ a,x≠126) (w:World):Calls Tryz.prog 147 #[.string (mkL (a++126 :: r)),.string ⟨#[126]⟩] w fun e w'=>e = .returned (.tuple #[.string (mkL a),.string (mkL r),.bool true])∧Below w.heap.size w w':=by
 have c1:=hid (fun u:World=>Any.stringslite_Index_one Tryz.lays219 (mkL (a++126 :: r)) 126 u)
 have hi':Lib.indexByte (mkL (a++126 :: r)).data.toList 126=(a.length:Int):=by rw [data_mkL];exact idx_yes a 126 r h
 rw [hi'] at c1
 clear hi' h
 have e1:(mkL (a++126 :: r)).extract 0 a.length=mkL a:=by rw [mkL_ext];simp
 have e2:(mkL (a++126 :: r)).extract (a.length+1) (mkL (a++126 :: r)).size=mkL r:=by
  rw [mkL_ext,mkL_size]
  congr 1
  rw [List.take_of_length_le (by simp;omega)]
  simp
 have hz:(mkL (a++126 :: r)).size=a.length+1+r.length:=by rw [mkL_size];simp;omega
 obtain ⟨s,hs⟩:∃ s,mkL (a++126 :: r)=s:=⟨_,rfl⟩
 rw [hs] at c1 e1 e2 hz ⊢
 obtain ⟨n,hn⟩:∃ n,a.length=n:=⟨_,rfl⟩
 rw [hn] at c1 e1 e2 hz
 have e1':=hid e1
 have e2':=hid e2
 have c2:(n:Int)≤(s.size:Int):=by omega
 have c3:(n:Int)+1≤(s.size:Int):=by omega
 have c5:IntKind.i64.wrap ((n:Int)+1)=(n:Int)+1:=wrap_small _ (by omega) (by simp at hl;omega)
 have c6:(0:Int)≤(n:Int)+1:=by omega
 have c7:((n:Int)+1).toNat=n+1:=by omega
 have c4:(s.size:Int)≤4294967296:=by rw [hz];simp at hl;omega
 clear hs hn e1 e2 hz hl
 go_enter Tryz.func147,Tryz.ntmps147
 go_wp2_with fail
 refine Calls.mono (c1.out _) ?_
 rintro e w1 ⟨rfl,rfl⟩
 go_wp2
 have mixed:Tryz.prog.follows .mixedOrders=true:=by kernel_rfl
 go_region_o
 go_wp2
 go_ret3
 exact ⟨by rw [← e1'.out,← e2'.out];rfl,(Below.refl _ _).drew⟩
set_option maxRecDepth 10000 in
theorem cutT_no (l:List UInt8) (h:∀ x ∈ l,x≠126) (w:World):Calls Tryz.prog 131 #[.string (mkL l),.string ⟨#[126]⟩] w fun e w'=>e = .returned (.tuple #[.string (mkL l),.string (mkL []),.bool false])∧Below w.heap.size w w':=by
 have c1:=hid (fun u:World=>cutS_no l h u)
 clear h
 go_enter Tryz.func131,Tryz.ntmps131
 go_wp2_with fail
 refine Calls.mono (c1.out _) ?_
 rintro e w1 ⟨rfl,rfl⟩
 go_wp2
 go_ret3
 exact ⟨rfl,Below.refl _ _⟩
set_option maxRecDepth 10000 in
theorem cutT_yes (a r:List UInt8) (hl:(a++126 :: r).length≤4294967296) (h:∀ x ∈ a,x≠126) (w:World):Calls Tryz.prog 131 #[.string (mkL (a++126 :: r)),.string ⟨#[126]⟩] w fun e w'=>e = .returned (.tuple #[.string (mkL a),.string (mkL r),.bool true])∧Below w.heap.size w w':=by
 have c1:=hid (fun u:World=>cutS_yes a r hl h u)
 clear h hl
 obtain ⟨s,hs⟩:∃ s,mkL (a++126 :: r)=s:=⟨_,rfl⟩
 rw [hs] at c1 ⊢
 clear hs
 go_enter Tryz.func131,Tryz.ntmps131
 go_wp2_with fail
 refine Calls.mono (c1.out _) ?_
 rintro e w1 ⟨rfl,b1⟩
 have b1':=hid b1
 clear b1
 go_wp2
 go_ret3
 exact ⟨rfl,b1'.out⟩
def tlC:List UInt8→Nat × Bool
 | []=>(0,false)
 | d :: _=>if d=49 then (47,true) else if d=48 then (126,true) else (0,false)
set_option maxRecDepth 10000 in
set_option maxHeartbeats 2000000 in
theorem tilde_calls (l:List UInt8) (w:World):Calls Tryz.prog 132 #[.string (mkL l)] w fun e w'=>e = .returned (.tuple #[.int .u8 ((tlC l).1:Int),.bool (tlC l).2])∧w'=w:=by
 cases l with
 | nil =>
  show Calls Tryz.prog 132 #[.string ByteArray.empty] w _
  go_enter Tryz.func132,Tryz.ntmps132
  go_wp2
  go_ret2
  exact ⟨rfl,rfl⟩
 | cons d t =>
  have hne:((mkL (d :: t)).toList == [])=false:=by
   rw [eq_const,data_mkL]
   exact decide_eq_false (by simp)
  have h0:0<(mkL (d :: t)).size:=by rw [mkL_size];simp
  have hd:((mkL (d :: t))[0]'h0).toNat=d.toNat:=by
   rw [← lk_at _ 0 h0]
   exact lk_mkL (d :: t) 0 d rfl
  have key:(d=49∧d.toNat=49)∨(d≠49∧d=48∧d.toNat=48)∨(d≠49∧d≠48∧d.toNat≠49∧d.toNat≠48):=by
   by_cases h1:d=49
   ·exact .inl ⟨h1,by rw [h1];rfl⟩
   ·by_cases h2:d=48
    ·exact .inr (.inl ⟨h1,h2,by rw [h2];rfl⟩)
    ·exact .inr (.inr ⟨h1,h2,fun h=>h1 (UInt8.toNat_inj.1 h),fun h=>h2 (UInt8.toNat_inj.1 h)⟩)
  generalize mkL (d :: t)=s at hne h0 hd ⊢
  rcases key with ⟨k1,k2⟩ | ⟨k1,k2,k3⟩ | ⟨k1,k2,k3,k4⟩
  ·have ht:=hid (show tlC (d :: t)=(47,true) by show (if d=49 then _ else _)=_;rw [if_pos k1])
   rw [k2] at hd
   clear k1 k2
   go_enter Tryz.func132,Tryz.ntmps132
   go_wp2
   go_ret2
   exact ⟨by rw [ht.out];rfl,rfl⟩
  ·have ht:=hid (show tlC (d :: t)=(126,true) by show (if d=49 then _ else _)=_;rw [if_neg k1,if_pos k2])
   rw [k3] at hd
   clear k1 k2 k3
   go_enter Tryz.func132,Tryz.ntmps132
   go_wp2
   go_ret2
   exact ⟨by rw [ht.out];rfl,rfl⟩
  ·have ht:=hid (show tlC (d :: t)=(0,false) by show (if d=49 then _ else _)=_;rw [if_neg k1,if_neg k2])
   have g1:((s[0]'h0).toNat:Int)≠49:=by rw [hd];omega
   have g2:((s[0]'h0).toNat:Int)≠48:=by rw [hd];omega
   clear k1 k2 k3 k4 hd
   go_enter Tryz.func132,Tryz.ntmps132
   go_wp2
   go_ret2
   exact ⟨by rw [ht.out];rfl,rfl⟩
end Go.Proofs.YtjcpamjeekfblaaGreatDoor

namespace Go.Proofs.YtjcpamjeekfblaaGreatDoor
open Go.RowKit Go.Shelf
def mbT (s:Stp) (ks:List ByteArray) (vs:List Vt):Nat→List (List UInt8 × Vt)
 | 0=>[]
 | i+1=>mbT s ks vs i++(match ks[i]?,vs[i]? with
  | some k,some v=>if (tkS s k 0 true && !((ks.take i).any (fun x=>decide (x=k))))=true then [(k.data.toList,v)] else []
  | _,_=>[])
def elT (s:Stp) (vs:List Vt):Nat→List (List UInt8 × Vt)
 | 0=>[]
 | i+1=>elT s vs i++(match vs[i]? with
  | some v=>if tkS s ⟨#[]⟩ (i:Int) false=true then [(Lib.itoa (i:Int),v)] else []
  | none=>[])
def tkL (s:Stp) (t:Vt):List (List UInt8 × Vt):=if t.kind=6 then mbT s t.keys t.kids t.keys.length else elT s t.kids t.kids.length
def fdP:List Stp→Vt→List (List UInt8)→List (List UInt8 × Vt)
 | [],t,way=>[(wrL way,t)]
 | s :: ss,t,way=>(tkL s t).flatMap (fun x=>fdP ss x.2 (way++[x.1]))
theorem mbT_yes {s:Stp} {ks:List ByteArray} {vs:List Vt} {i:Nat} {k:ByteArray} {v:Vt} (hk:ks[i]? = some k) (hv:vs[i]? = some v) (ht:tkS s k 0 true=true) (hn:∀ j,j<i→ks[j]?≠some k):mbT s ks vs (i+1)=mbT s ks vs i++[(k.data.toList,v)]:=by
 have ha:((ks.take i).any (fun x=>decide (x=k)))=false:=by
  rw [List.any_eq_false]
  intro x hx h
  have:=of_decide_eq_true h
  subst this
  obtain ⟨j,hj⟩:=List.mem_iff_getElem?.1 hx
  rw [List.getElem?_take] at hj
  split at hj
  ·rename_i h1;exact hn j h1 hj
  ·cases hj
 simp only [mbT,hk,hv,ht,ha,Bool.not_false,Bool.and_self,if_true]
theorem mbT_no {s:Stp} {ks:List ByteArray} {vs:List Vt} {i:Nat} {k:ByteArray} {v:Vt} (hk:ks[i]? = some k) (hv:vs[i]? = some v) (ht:tkS s k 0 true=false):mbT s ks vs (i+1)=mbT s ks vs i:=by
 simp [mbT,hk,hv,ht]
theorem mbT_twice {s:Stp} {ks:List ByteArray} {vs:List Vt} {i j:Nat} {k:ByteArray} {v:Vt} (hk:ks[i]? = some k) (hv:vs[i]? = some v) (hj:j<i) (hjk:ks[j]? = some k):mbT s ks vs (i+1)=mbT s ks vs i:=by
 have ha:((ks.take i).any (fun x=>decide (x=k)))=true:=by
  rw [List.any_eq_true]
  refine ⟨k,List.mem_iff_getElem?.2 ⟨j,by rw [List.getElem?_take,if_pos hj];exact hjk⟩,by simp⟩
 simp only [mbT,hk,hv,ha,Bool.not_true,Bool.and_false,Bool.false_eq_true,if_false,List.append_nil]
theorem elT_yes {s:Stp} {vs:List Vt} {i:Nat} {v:Vt} (hv:vs[i]? = some v) (ht:tkS s ⟨#[]⟩ (i:Int) false=true):elT s vs (i+1)=elT s vs i++[(Lib.itoa (i:Int),v)]:=by
 simp only [elT,hv,ht,if_true]
theorem elT_no {s:Stp} {vs:List Vt} {i:Nat} {v:Vt} (hv:vs[i]? = some v) (ht:tkS s ⟨#[]⟩ (i:Int) false=false):elT s vs (i+1)=elT s vs i:=by
 simp [elT,hv,ht]
theorem mbT_pre (s:Stp) (ks:List ByteArray) (vs:List Vt):∀ (m i:Nat),i≤m→mbT s ks vs i <+: mbT s ks vs m
 | 0,i,h=>by
  obtain rfl:i=0:=by omega
  exact List.prefix_refl _
 | m+1,i,h=>by
  by_cases e:i=m+1
  ·subst e;exact List.prefix_refl _
  ·exact (mbT_pre s ks vs m i (by omega)).trans (by rw [mbT];exact List.prefix_append _ _)
theorem elT_pre (s:Stp) (vs:List Vt):∀ (m i:Nat),i≤m→elT s vs i <+: elT s vs m
 | 0,i,h=>by
  obtain rfl:i=0:=by omega
  exact List.prefix_refl _
 | m+1,i,h=>by
  by_cases e:i=m+1
  ·subst e;exact List.prefix_refl _
  ·exact (elT_pre s vs m i (by omega)).trans (by rw [elT];exact List.prefix_append _ _)
theorem pre_get {α:Type} {a b:List α} {x:α} (h:a++[x] <+: b):b[a.length]? = some x:=by
 obtain ⟨t,rfl⟩:=h
 simp
theorem mbT_mem (s:Stp) (ks:List ByteArray) (vs:List Vt):∀ (n:Nat) (x:List UInt8 × Vt),x ∈ mbT s ks vs n→∃ i k,i<n∧ks[i]? = some k∧x.1=k.data.toList∧vs[i]? = some x.2
 | 0,x,h=>by simp [mbT] at h
 | n+1,x,h=>by
  rw [mbT,List.mem_append] at h
  rcases h with h | h
  ·obtain ⟨i,k,h1,h2⟩:=mbT_mem s ks vs n x h
   exact ⟨i,k,by omega,h2⟩
  ·split at h
   ·rename_i k v hk hv
    split at h
    ·simp at h;subst h;exact ⟨n,k,by omega,hk,rfl,hv⟩
    ·simp at h
   ·simp at h
theorem elT_mem (s:Stp) (vs:List Vt):∀ (n:Nat) (x:List UInt8 × Vt),x ∈ elT s vs n→∃ i,i<n∧x.1=Lib.itoa (i:Int)∧vs[i]? = some x.2
 | 0,x,h=>by simp [elT] at h
 | n+1,x,h=>by
  rw [elT,List.mem_append] at h
  rcases h with h | h
  ·obtain ⟨i,h1,h2⟩:=elT_mem s vs n x h
   exact ⟨i,by omega,h2⟩
  ·split at h
   ·rename_i v hv
    split at h
    ·simp at h;subst h;exact ⟨n,by omega,rfl,hv⟩
    ·simp at h
   ·simp at h
theorem tkL_mem {s:Stp} {t:Vt} {x:List UInt8 × Vt} (h:x ∈ tkL s t):x.2 ∈ t.kids:=by
 unfold tkL at h
 split at h
 ·obtain ⟨i,k,-,-,-,h1⟩:=mbT_mem _ _ _ _ _ h
  exact List.mem_of_getElem? h1
 ·obtain ⟨i,-,-,h1⟩:=elT_mem _ _ _ _ h
  exact List.mem_of_getElem? h1
end Go.Proofs.YtjcpamjeekfblaaGreatDoor

namespace Go.Proofs.YtjcpamjeekfblaaGreatDoor
open Go.RowKit Go.Shelf
def FreeFrom {β:Type} (B:Nat) (I:β→World→Prop):Prop:=∀ s W W' row,I s W→W.grownBy W' row→(∀ r,row=some r→B≤r)→I s W'
theorem FreeFrom.own {β:Type} {B:Nat} {I:β→World→Prop} (h:FreeFrom B I):OwnFrom B I:=fun s W W' row hs hg hr=>h s W W' row hs hg (fun r e=>(hr r e).1)
section
variable {P:Program}
end
end Go.Proofs.YtjcpamjeekfblaaGreatDoor

namespace Go.Proofs.YtjcpamjeekfblaaGreatDoor
open Go.RowKit Go.Shelf
section
variable {P:Program}
def BFree (B:Nat) (I:Nat→World→Prop):Prop:=∀ s W W',I s W→Below B W W'→I s W'
theorem below_of_grown {B:Nat} {W W':World} {row:Option Nat} (hg:W.grownBy W' row) (hB:B≤W.heap.size) (hr:∀ r,row=some r→B≤r):Below B W W' :=
 ⟨hg.os,hg.tape,hg.output,hg.size,fun k hk=>hg.block k (by omega) (fun e=>by have:=hr k e.symm;omega)⟩
def SeqTellR (Good:World→Prop) (n:Nat) (P:Program) (g:Nat) (lb:Array Value) (E:Nat→Nat→Nat→Array Value→World→Prop) (Kp:Nat→Nat→World→World→Prop) (N:Nat) (w:World):Prop :=
 ∀ (l:Nat) (J Jx:Nat→World→Prop) (W:World),Below w.heap.size w W→BFree W.heap.size J→BFree W.heap.size Jx→(∀ r A,J r A→Good A) →
  (∀ r c x W1,J r W1→r<N→E W.heap.size r c x W1→YieldAt Fence.wide (n-1) P l x W1 fun e W' =>
   (e = .returned (.bool true)∧J (r+1) W'∧Kp W.heap.size c W1 W')∨(e = .returned (.bool false)∧Jx (r+1) W'∧Kp W.heap.size c W1 W')) →
  J 0 W →
  CallsIn Fence.wide n P g (#[.func (.yield l) #[] #[]]++lb) W fun e W'=>(∃ v,e = .returned v)∧(J N W'∨∃ r,r≤N∧Jx r W')
def tellPostR (B:Nat) (Kp:World→World→Prop) (I:Nat→World→Prop) (Ix:Code→Nat→World→Prop) (r:Nat) (W:World):Exit→Act→World→Prop
 | .normal,_,W'=>KeepsFrom B W W'∧Kp W W'∧I r W'
 | .ret,_,W'=>KeepsFrom B W W'∧Kp W W'∧Ix .ret r W'
 | .exit id,_,W'=>KeepsFrom B W W'∧Kp W W'∧Ix (.exit id) r W'
 | .goto t,_,W'=>KeepsFrom B W W'∧Kp W W'∧Ix (.goto t) r W'
 | .panic _,_,_=>False
 | .outgrown,_,_=>False
theorem range_tellR {Good:World→Prop} {n:Nat} {g:Operand} {ps:Array Tmp} {assign body:Code} {Q:Exit→Act→World→Prop} {a:Act} {w:World}
  (hn:1≤n) {gf:Nat} {lb:Array Value} (hg:a.eval g = .func (.func gf) #[] lb) (eg:∀ args w,(callFunc gf args).run P w = .ok (.enter gf args) w)
  {E:Nat→Nat→Nat→Array Value→World→Prop} {Kp:Nat→Nat→World→World→Prop} {N:Nat} {w0:World} (hseq:SeqTellR Good (n-1) P gf lb E Kp N w0) (hb0:Below w0.heap.size w0 w) (hps:∀ b r c x W,E b r c x W→x.size=ps.size)
  (hKt:∀ {b c:Nat} {A B C:World},Kp b c A B→Kp b c B C→Kp b c A C) (hKl:∀ (c:Nat) (W:World) (l:Nat) (r r':Loop),w.heap.size≤l→l<w.heap.size+1+1→W.heap[l]? = some (.loop r)→Kp (w.heap.size+1+1) c W (W.putObj l (.loop r')))
  (I:Nat→World→Prop) (Ix:Code→Nat→World→Prop) (hIf:BFree w.heap.size I) (hIxf:∀ c,BFree w.heap.size (Ix c)) (hIs:∀ r W,I r W→w.heap.size≤W.heap.size) (hIxs:∀ c r W,Ix c r W→w.heap.size≤W.heap.size) (h0:I 0 w) (hGd:∀ r W,I r W→Good W)
  (Ax:Nat→Nat→Act→World→Prop) (hAx:∀ x c a',OwnFrom w.heap.size (fun (_:Unit) W=>Ax x c a' W))
  (hassign:∀ (l:Nat) (r c:Nat) (x:Array Value) (W:World) (K:Act→World→Prop),r<N→I r W→E (w.heap.size+1+1) r c x W→(∀ a' W',KeepsFrom w.heap.size W W'→Kp (w.heap.size+1+1) c W W'→I r W'→Ax r c a' W'→K a' W') →
   assign.wpIn (Fence.wide.inRound l) (n-1-1) P (Exit.then K (fun _ _ _=>False)) { tmps:=(ps.zip x).foldl (fun t (p,v)=>t.setIfInBounds p v) a.tmps,defers:=[] } W)
  (hbody:∀ (l:Nat) (r c:Nat) (a':Act) (W:World),w.heap.size≤l→(∃ r,W.heap[l]? = some (.loop r))→r<N→I r W→Ax r c a' W→body.wpIn (Fence.wide.inRound l) (n-1-1) P (tellPostR w.heap.size (Kp (w.heap.size+1+1) c) I Ix (r+1) W) a' W)
  (hdone:∀ (D:Nat) (W:World),w.heap.size≤D→I N W→W.heap[D]? = some (.deferred (some []))→Q .normal { a with defers:={ target:=.collected D,args:=#[] } :: a.defers } W)
  (hstop:∀ (D:Nat) (c:Code) (r:Nat) (W:World),w.heap.size≤D→r≤N→Ix c r W→W.heap[D]? = some (.deferred (some []))→c.wpIn Fence.wide n P Q { a with defers:={ target:=.collected D,args:=#[] } :: a.defers } W) :
  (Code.rangeFunc g ps assign body).wpIn Fence.wide n P Q a w:=by
 have hI:OwnFrom w.heap.size I:=fun s W W' row hs hg hr=>hIf s W W' hs (below_of_grown hg (hIs s W hs) (fun r e=>(hr r e).1))
 have hIx:∀ c,OwnFrom w.heap.size (Ix c):=fun c s W W' row hs hg hr=>hIxf c s W W' hs (below_of_grown hg (hIxs c s W hs) (fun r e=>(hr r e).1))
 refine wpIn_rangeFunc fun fn hfn=>?_
 obtain ⟨L,hL⟩:∃ L:LoopState→Option Code→Loop,L=fun st pe=>{ state:=st,pending:=pe,fn,tmps:=a.tmps,params:=ps,assign,body,defers:=w.heap.size }:=⟨_,rfl⟩
 have book1:=Book.new w (L .ready none)
 have inv1:I 0 ((w.alloc (.deferred (some []))).alloc (.loop (L .ready none))):=hI.alloc _ (hI.alloc _ h0)
 have below1:Below w0.heap.size w0 ((w.alloc (.deferred (some []))).alloc (.loop (L .ready none))) :=
  hb0.trans ((((Below.refl _ w).alloc (Nat.le_refl _) _).alloc (by simp) _).mono hb0.size)
 have size1:((w.alloc (.deferred (some []))).alloc (.loop (L .ready none))).heap.size=w.heap.size+1+1:=by simp
 have enter1:(Instr.enterLoop fn a.tmps ps assign body Fence.wide.round).run P w = .ok (w.heap.size+1,[{ target:=.collected w.heap.size,args:=#[] }]) ((w.alloc (.deferred (some []))).alloc (.loop (L .ready none))):=by
  rw [hL];exact run_enterLoop_outer _ _ _ _ _
 generalize (w.alloc (.deferred (some []))).alloc (.loop (L .ready none))=W1 at *
 -- between two rounds,and behind the one that has left
 obtain ⟨J,hJ⟩:∃ J:Nat→World→Prop,J=fun r W=>I r W∧Book w.heap.size (L .ready none) W:=⟨_,rfl⟩
 obtain ⟨Jx,hJx⟩:∃ Jx:Nat→World→Prop,Jx=fun r W=>∃ c,Ix c r W∧Book w.heap.size (L .done (some c)) W:=⟨_,rfl⟩
 have abJ:BFree W1.heap.size J:=fun s X Y hs hg'=>by
  rw [hJ] at hs ⊢
  exact ⟨hIf s X Y hs.1 (hg'.mono (by omega)),(hg'.block _ (by omega)).trans hs.2.1,(hg'.block _ (by omega)).trans hs.2.2⟩
 have abJx:BFree W1.heap.size Jx:=fun s X Y hs hg'=>by
  rw [hJx] at hs ⊢
  obtain ⟨c,h1,h2⟩:=hs
  exact ⟨c,hIxf c s X Y h1 (hg'.mono (by omega)),(hg'.block _ (by omega)).trans h2.1,(hg'.block _ (by omega)).trans h2.2⟩
 have round:∀ r c x W,J r W→r<N→E (w.heap.size+1+1) r c x W→YieldAt Fence.wide (n-1-1) P (w.heap.size+1) x W fun e W' =>
   (e = .returned (.bool true)∧J (r+1) W'∧Kp (w.heap.size+1+1) c W W')∨(e = .returned (.bool false)∧Jx (r+1) W'∧Kp (w.heap.size+1+1) c W W'):=by
  intro r c x W hs hlt hE
  rw [hJ] at hs
  obtain ⟨inv,book⟩:=hs
  have hy:=run_yield (P:=P) (args:=x) book.1 (by rw [hL];exact hps _ r c x W hE)
  rw [hL] at hy
  refine ⟨fn,_,assign,body,hy,roundIn_of_wpIn hfn (hassign _ r c x W _ hlt inv hE ?_)⟩
  clear hy
  intro a' Wa hka hkpa inva hax
  have booka:=book.keeps hka
  refine ⟨_,run_beginRound booka.1 (by rw [hL]),?_⟩
  have busy:=booka.turn { L .ready none with state:=.busy }
  have invB:=hI.putObj (.loop { L .ready none with state:=.busy }) inva (by omega) booka.1 rfl
  have axB:=(hAx r c a').putObj (s:=()) (.loop { L .ready none with state:=.busy }) hax (by omega) booka.1 rfl
  have kpB:=hKt hkpa (hKl c Wa (w.heap.size+1) _ { L .ready none with state:=.busy } (by omega) (by omega) booka.1)
  generalize Wa.putObj (w.heap.size+1) (.loop { L .ready none with state:=.busy })=WB at *
  refine wpIn_mono (hbody _ r c a' WB (by omega) ⟨_,busy.1⟩ hlt invB axB) ?_
  have last:∀ (jump:Option Code) (W3:World),KeepsFrom w.heap.size WB W3→(Instr.endRound (w.heap.size+1) jump).run P W3 = .ok (.bool jump.isNone) (W3.putObj (w.heap.size+1) (.loop (L (if jump.isNone then .ready else .done) jump)))∧Book w.heap.size { L .ready none with state:=.busy } W3:=fun jump W3 hk=>by
   have b3:=busy.keeps hk
   have e:=run_endRound (P:=P) jump b3.1
   refine ⟨?_,b3⟩
   rw [hL] at e ⊢
   exact e
  have leave:∀ (cd:Code) (W3:World),KeepsFrom w.heap.size WB W3∧Kp (w.heap.size+1+1) c WB W3∧Ix cd (r+1) W3→∃ v W4,(Instr.endRound (w.heap.size+1) (some cd)).run P W3 = .ok v W4 ∧
    ((Ending.returned v = .returned (.bool true)∧J (r+1) W4∧Kp (w.heap.size+1+1) c W W4)∨(Ending.returned v = .returned (.bool false)∧Jx (r+1) W4∧Kp (w.heap.size+1+1) c W W4)):=fun cd W3 ⟨hk,hkp,hx⟩=>by
   obtain ⟨e,b3⟩:=last (some cd) W3 hk
   exact ⟨_,_,e,.inr ⟨rfl,by rw [hJx];exact ⟨cd,(hIx cd).putObj _ hx (by omega) b3.1 rfl,b3.turn _⟩,hKt kpB (hKt hkp (hKl c W3 _ _ _ (by omega) (by omega) b3.1))⟩⟩
  intro e a3 W3 hp
  cases e with
  | normal =>
   obtain ⟨hk,hkp,hi3⟩:=hp
   obtain ⟨e,b3⟩:=last none W3 hk
   exact ⟨_,_,e,.inl ⟨rfl,by rw [hJ];exact ⟨hI.putObj _ hi3 (by omega) b3.1 rfl,b3.turn _⟩,hKt kpB (hKt hkp (hKl c W3 _ _ _ (by omega) (by omega) b3.1))⟩⟩
  | ret=>exact leave _ W3 hp
  | exit id=>exact leave _ W3 hp
  | goto t=>exact leave _ W3 hp
  | panic ch=>exact hp.elim
  | outgrown=>exact hp.elim
 refine ⟨w.heap.size+1,[{ target:=.collected w.heap.size,args:=#[] }],W1,{ target:=.fn (.func gf) lb,args:=#[.func (.yield (w.heap.size+1)) #[] #[]] },W1,gf,
  #[.func (.yield (w.heap.size+1)) #[] #[]]++lb,W1,enter1,?_,?_,?_,fun _=>hn,?_⟩
 ·simp only [resolve,hg]
  simp [go_sem]
 ·intro f' _;trivial
 ·simp [invoke,go_sem,eg]
 ·refine (hseq (w.heap.size+1) J Jx W1 below1 abJ abJx (fun r A h=>by rw [hJ] at h;exact hGd r A h.1) (by rw [size1];exact round) (by rw [hJ];exact ⟨inv1,book1⟩)).mono ?_
  rintro e W2 ⟨⟨v,rfl⟩,h | h⟩
  ·rw [hJ] at h
   obtain ⟨hi2,b2⟩:=h
   have e:=run_endLoop (P:=P) b2.1 (by rw [hL];simp)
   exact ⟨none,_,by rw [hL] at e;exact e,hdone _ _ (Nat.le_refl _) (hI.putObj _ hi2 (by omega) b2.1 rfl) ((World.putObj_heap_other (by omega)).trans b2.2)⟩
  ·obtain ⟨r,hr,hs⟩:=h
   rw [hJx] at hs
   obtain ⟨c,hx2,b2⟩:=hs
   have e:=run_endLoop (P:=P) b2.1 (by rw [hL];simp)
   exact ⟨some c,_,by rw [hL] at e;exact e,hstop _ c r _ (Nat.le_refl _) hr ((hIx c).putObj _ hx2 (by omega) b2.1 rfl) ((World.putObj_heap_other (by omega)).trans b2.2)⟩
theorem range_tellY {β:Type} {Good:World→Prop} {n:Nat} {g:Operand} {ps:Array Tmp} {assign body:Code} {Q:Exit→Act→World→Prop} {a:Act} {w:World}
  (hn:1≤n) {gf:Nat} {lb:Array Value} (hg:a.eval g = .func (.func gf) #[] lb) (eg:∀ args w,(callFunc gf args).run P w = .ok (.enter gf args) w)
  {E:Nat→Nat→Nat→Array Value→World→Prop} {Kp:Nat→Nat→World→World→Prop} {N:Nat} {w0:World} (hseq:SeqTellR Good (n-1) P gf lb E Kp N w0) (hb0:Below w0.heap.size w0 w) (hps:∀ b r c x W,E b r c x W→x.size=ps.size)
  (hKt:∀ {b c:Nat} {A B C:World},Kp b c A B→Kp b c B C→Kp b c A C) (hKl:∀ (c:Nat) (W:World) (l:Nat) (r r':Loop),w.heap.size≤l→l<w.heap.size+1+1→W.heap[l]? = some (.loop r)→Kp (w.heap.size+1+1) c W (W.putObj l (.loop r')))
  (I:Nat→World→Prop) (Ix:Code→Nat→World→Prop) (hIf:BFree w.heap.size I) (hIxf:∀ c,BFree w.heap.size (Ix c)) (hIs:∀ r W,I r W→w.heap.size≤W.heap.size) (hIxs:∀ c r W,Ix c r W→w.heap.size≤W.heap.size) (h0:I 0 w) (hGd:∀ r W,I r W→Good W)
  (Y:Nat→Nat→β→World→Prop) (G:Array Value→β→Act) (hY:∀ r c y,OwnFrom w.heap.size (fun (_:Unit) W=>Y r c y W))
  (hassign:∀ (l:Nat) (r c:Nat) (x:Array Value) (W:World) (K:Act→World→Prop),r<N→I r W→E (w.heap.size+1+1) r c x W→(∀ y W',KeepsFrom w.heap.size W W'→Kp (w.heap.size+1+1) c W W'→I r W'→Y r c y W'→K (G a.tmps y) W') →
   assign.wpIn (Fence.wide.inRound l) (n-1-1) P (Exit.then K (fun _ _ _=>False)) { tmps:=(ps.zip x).foldl (fun t (p,v)=>t.setIfInBounds p v) a.tmps,defers:=[] } W)
  (hbody:∀ (l:Nat) (r c:Nat) (y:β) (W:World),w.heap.size≤l→(∃ r,W.heap[l]? = some (.loop r))→r<N→I r W→Y r c y W→body.wpIn (Fence.wide.inRound l) (n-1-1) P (tellPostR w.heap.size (Kp (w.heap.size+1+1) c) I Ix (r+1) W) (G a.tmps y) W)
  (hdone:∀ (D:Nat) (W:World),w.heap.size≤D→I N W→W.heap[D]? = some (.deferred (some []))→Q .normal { a with defers:={ target:=.collected D,args:=#[] } :: a.defers } W)
  (hstop:∀ (D:Nat) (c:Code) (r:Nat) (W:World),w.heap.size≤D→r≤N→Ix c r W→W.heap[D]? = some (.deferred (some []))→c.wpIn Fence.wide n P Q { a with defers:={ target:=.collected D,args:=#[] } :: a.defers } W) :
  (Code.rangeFunc g ps assign body).wpIn Fence.wide n P Q a w :=
 range_tellR hn hg eg hseq hb0 hps hKt hKl I Ix hIf hIxf hIs hIxs h0 hGd (fun r c a' W=>∃ y,Y r c y W∧a'=G a.tmps y)
  (fun r c a' u W W' row h hg hr=>by obtain ⟨y,h1,h2⟩:=h;exact ⟨y,hY r c y u W W' row h1 hg hr,h2⟩)
  (fun l r c x W K h1 h2 h3 h4=>hassign l r c x W K h1 h2 h3 (fun y W' a1 a2 a3 a4=>h4 _ W' a1 a2 a3 ⟨y,a4,rfl⟩))
  (fun l r c a' W h1 h2 h3 h4 h5=>by obtain ⟨y,h6,rfl⟩:=h5;exact hbody l r c y W h1 h2 h3 h4 h6)
  hdone hstop
end
end Go.Proofs.YtjcpamjeekfblaaGreatDoor

namespace Go.Proofs.YtjcpamjeekfblaaGreatDoor
open Go.RowKit Go.Shelf
section
variable {P:Program}
def RFree (R:World→World→Prop) (I:Nat→World→Prop):Prop:=∀ s W W',I s W→R W W'→I s W'
def tellPostN (b:Nat) (Kp:World→World→Prop) (I:Nat→World→Prop) (Ix:Code→Nat→World→Prop) (r:Nat) (W:World):Exit→Act→World→Prop
 | .normal,_,W'=>(∀ o,W.heap[b]? = some o→W'.heap[b]? = some o)∧Kp W W'∧I r W'
 | .ret,_,W'=>(∀ o,W.heap[b]? = some o→W'.heap[b]? = some o)∧Kp W W'∧Ix .ret r W'
 | .exit id,_,W'=>(∀ o,W.heap[b]? = some o→W'.heap[b]? = some o)∧Kp W W'∧Ix (.exit id) r W'
 | .goto t,_,W'=>(∀ o,W.heap[b]? = some o→W'.heap[b]? = some o)∧Kp W W'∧Ix (.goto t) r W'
 | .panic _,_,_=>False
 | .outgrown,_,_=>False
theorem range_tellN {Good:World→Prop} {n:Nat} {g:Operand} {ps:Array Tmp} {assign body:Code} {Q:Exit→Act→World→Prop} {a:Act} {w:World} {l0:Nat} {r0:Loop} (hl0:w.heap[l0]? = some (.loop r0))
  (hn:1≤n) {gf:Nat} {lb:Array Value} (hg:a.eval g = .func (.func gf) #[] lb) (eg:∀ args w,(callFunc gf args).run P w = .ok (.enter gf args) w)
  (R:Nat→World→World→Prop) (hR1:∀ B X Y,w.heap.size≤B→Below B X Y→R B X Y) (hR2:∀ B B' X Y,B≤B'→R B' X Y→R B X Y) (hR3:∀ B X Y k,R B X Y→w.heap.size≤k→k<B→Y.heap[k]? = X.heap[k]?)
  {E:Nat→Nat→Nat→Array Value→World→Prop} {Kp:Nat→Nat→World→World→Prop} {N:Nat}
  (hseq:∀ (rec:Loop) (l:Nat) (J Jx:Nat→World→Prop),RFree (R (w.heap.size+1)) J→RFree (R (w.heap.size+1)) Jx→(∀ r A,J r A→Good A) →
   (∀ r c x W1,J r W1→r<N→E (w.heap.size+1) r c x W1→YieldAt Fence.wide (n-1-1) P l x W1 fun e W' =>
    (e = .returned (.bool true)∧J (r+1) W'∧Kp (w.heap.size+1) c W1 W')∨(e = .returned (.bool false)∧Jx (r+1) W'∧Kp (w.heap.size+1) c W1 W')) →
   J 0 (w.alloc (.loop rec)) →
   CallsIn Fence.wide (n-1) P gf (#[.func (.yield l) #[] #[]]++lb) (w.alloc (.loop rec)) fun e W'=>(∃ v,e = .returned v)∧(J N W'∨∃ r,r≤N∧Jx r W'))
  (hps:∀ b r c x W,E b r c x W→x.size=ps.size)
  (hKt:∀ {b c:Nat} {A B C:World},Kp b c A B→Kp b c B C→Kp b c A C) (hKl:∀ (c:Nat) (W:World) (r r':Loop),W.heap[w.heap.size]? = some (.loop r)→Kp (w.heap.size+1) c W (W.putObj w.heap.size (.loop r')))
  (I:Nat→World→Prop) (Ix:Code→Nat→World→Prop) (hIf:RFree (R w.heap.size) I) (hIxf:∀ c,RFree (R w.heap.size) (Ix c)) (hIs:∀ r W,I r W→w.heap.size≤W.heap.size) (hIxs:∀ c r W,Ix c r W→w.heap.size≤W.heap.size) (h0:I 0 w) (hGd:∀ r W,I r W→Good W)
  (Ax:Nat→Nat→Act→World→Prop) (hAx:∀ x c a',OwnFrom w.heap.size (fun (_:Unit) W=>Ax x c a' W))
  (hassign:∀ (l:Nat) (r c:Nat) (x:Array Value) (W:World) (K:Act→World→Prop),r<N→I r W→E (w.heap.size+1) r c x W→(∀ a' W',(∀ o,W.heap[w.heap.size]? = some o→W'.heap[w.heap.size]? = some o)→Kp (w.heap.size+1) c W W'→I r W'→Ax r c a' W'→K a' W') →
   assign.wpIn (Fence.wide.inRound l) (n-1-1) P (Exit.then K (fun _ _ _=>False)) { tmps:=(ps.zip x).foldl (fun t (p,v)=>t.setIfInBounds p v) a.tmps,defers:=[] } W)
  (hbody:∀ (l:Nat) (r c:Nat) (a':Act) (W:World),w.heap.size≤l→(∃ r,W.heap[l]? = some (.loop r))→r<N→I r W→Ax r c a' W→body.wpIn (Fence.wide.inRound l) (n-1-1) P (tellPostN w.heap.size (Kp (w.heap.size+1) c) I Ix (r+1) W) a' W)
  (hdone:∀ (W:World),I N W→Q .normal a W)
  (hstop:∀ (c:Code) (r:Nat) (W:World),r≤N→Ix c r W→c.wpIn (Fence.wide.inRound l0) n P Q a W) :
  (Code.rangeFunc g ps assign body).wpIn (Fence.wide.inRound l0) n P Q a w:=by
 have hI:OwnFrom w.heap.size I:=fun s W W' row hs hg hr=>hIf s W W' hs (hR1 _ _ _ (Nat.le_refl _) (below_of_grown hg (hIs s W hs) (fun r e=>(hr r e).1)))
 have hIx:∀ c,OwnFrom w.heap.size (Ix c):=fun c s W W' row hs hg hr=>hIxf c s W W' hs (hR1 _ _ _ (Nat.le_refl _) (below_of_grown hg (hIxs c s W hs) (fun r e=>(hr r e).1)))
 refine wpIn_rangeFunc fun fn hfn=>?_
 obtain ⟨L,hL⟩:∃ L:LoopState→Option Code→Loop,L=fun st pe=>{ state:=st,pending:=pe,fn,tmps:=a.tmps,params:=ps,assign,body,defers:=r0.defers }:=⟨_,rfl⟩
 have hL1:(w.alloc (.loop (L .ready none))).heap[w.heap.size]? = some (.loop (L .ready none)):=World.alloc_heap_new w _
 have inv1:I 0 (w.alloc (.loop (L .ready none))):=hI.alloc _ h0
 have enter1:(Instr.enterLoop fn a.tmps ps assign body (some l0)).run P w = .ok (w.heap.size,[]) (w.alloc (.loop (L .ready none))):=by
  rw [hL];exact run_enterLoop_inner hl0 _ _ _ _ _
 have hsq:=hseq (L .ready none) w.heap.size
 generalize w.alloc (.loop (L .ready none))=W1 at *
 obtain ⟨J,hJ⟩:∃ J:Nat→World→Prop,J=fun r W=>I r W∧W.heap[w.heap.size]? = some (.loop (L .ready none)):=⟨_,rfl⟩
 obtain ⟨Jx,hJx⟩:∃ Jx:Nat→World→Prop,Jx=fun r W=>∃ c,Ix c r W∧W.heap[w.heap.size]? = some (.loop (L .done (some c))):=⟨_,rfl⟩
 have abJ:RFree (R (w.heap.size+1)) J:=fun s X Y hs hg'=>by
  rw [hJ] at hs ⊢
  exact ⟨hIf s X Y hs.1 (hR2 _ _ _ _ (Nat.le_succ _) hg'),(hR3 _ _ _ _ hg' (Nat.le_refl _) (Nat.lt_succ_self _)).trans hs.2⟩
 have abJx:RFree (R (w.heap.size+1)) Jx:=fun s X Y hs hg'=>by
  rw [hJx] at hs ⊢
  obtain ⟨c,h1,h2⟩:=hs
  exact ⟨c,hIxf c s X Y h1 (hR2 _ _ _ _ (Nat.le_succ _) hg'),(hR3 _ _ _ _ hg' (Nat.le_refl _) (Nat.lt_succ_self _)).trans h2⟩
 have round:∀ r c x W,J r W→r<N→E (w.heap.size+1) r c x W→YieldAt Fence.wide (n-1-1) P w.heap.size x W fun e W' =>
   (e = .returned (.bool true)∧J (r+1) W'∧Kp (w.heap.size+1) c W W')∨(e = .returned (.bool false)∧Jx (r+1) W'∧Kp (w.heap.size+1) c W W'):=by
  intro r c x W hs hlt hE
  rw [hJ] at hs
  obtain ⟨inv,book⟩:=hs
  have hy:=run_yield (P:=P) (args:=x) book (by rw [hL];exact hps _ r c x W hE)
  rw [hL] at hy
  refine ⟨fn,_,assign,body,hy,roundIn_of_wpIn hfn (hassign _ r c x W _ hlt inv hE ?_)⟩
  clear hy
  intro a' Wa hka hkpa inva hax
  have booka:=hka _ book
  have hlta:w.heap.size<Wa.heap.size:=(Array.getElem?_eq_some_iff.1 booka).1
  refine ⟨_,run_beginRound booka (by rw [hL]),?_⟩
  have busy:(Wa.putObj w.heap.size (.loop { L .ready none with state:=.busy })).heap[w.heap.size]? = some (.loop { L .ready none with state:=.busy }):=World.putObj_heap_same hlta
  have invB:=hI.putObj (.loop { L .ready none with state:=.busy }) inva (Nat.le_refl _) booka rfl
  have axB:=(hAx r c a').putObj (s:=()) (.loop { L .ready none with state:=.busy }) hax (Nat.le_refl _) booka rfl
  have kpB:=hKt hkpa (hKl c Wa _ { L .ready none with state:=.busy } booka)
  generalize Wa.putObj w.heap.size (.loop { L .ready none with state:=.busy })=WB at *
  refine wpIn_mono (hbody _ r c a' WB (Nat.le_refl _) ⟨_,busy⟩ hlt invB axB) ?_
  have last:∀ (jump:Option Code) (W3:World),(∀ o,WB.heap[w.heap.size]? = some o→W3.heap[w.heap.size]? = some o)→(Instr.endRound w.heap.size jump).run P W3 = .ok (.bool jump.isNone) (W3.putObj w.heap.size (.loop (L (if jump.isNone then .ready else .done) jump)))∧W3.heap[w.heap.size]? = some (.loop { L .ready none with state:=.busy }) ∧
    (W3.putObj w.heap.size (.loop (L (if jump.isNone then .ready else .done) jump))).heap[w.heap.size]? = some (.loop (L (if jump.isNone then .ready else .done) jump)):=fun jump W3 hk=>by
   have b3:=hk _ busy
   have e:=run_endRound (P:=P) jump b3
   refine ⟨?_,b3,World.putObj_heap_same (Array.getElem?_eq_some_iff.1 b3).1⟩
   rw [hL] at e ⊢
   exact e
  have leave:∀ (cd:Code) (W3:World),(∀ o,WB.heap[w.heap.size]? = some o→W3.heap[w.heap.size]? = some o)∧Kp (w.heap.size+1) c WB W3∧Ix cd (r+1) W3→∃ v W4,(Instr.endRound w.heap.size (some cd)).run P W3 = .ok v W4 ∧
    ((Ending.returned v = .returned (.bool true)∧J (r+1) W4∧Kp (w.heap.size+1) c W W4)∨(Ending.returned v = .returned (.bool false)∧Jx (r+1) W4∧Kp (w.heap.size+1) c W W4)):=fun cd W3 ⟨hk,hkp,hx⟩=>by
   obtain ⟨e,b3,b4⟩:=last (some cd) W3 hk
   exact ⟨_,_,e,.inr ⟨rfl,by rw [hJx];exact ⟨cd,(hIx cd).putObj _ hx (Nat.le_refl _) b3 rfl,b4⟩,hKt kpB (hKt hkp (hKl c W3 _ _ b3))⟩⟩
  intro e a3 W3 hp
  cases e with
  | normal =>
   obtain ⟨hk,hkp,hi3⟩:=hp
   obtain ⟨e,b3,b4⟩:=last none W3 hk
   exact ⟨_,_,e,.inl ⟨rfl,by rw [hJ];exact ⟨hI.putObj _ hi3 (Nat.le_refl _) b3 rfl,b4⟩,hKt kpB (hKt hkp (hKl c W3 _ _ b3))⟩⟩
  | ret=>exact leave _ W3 hp
  | exit id=>exact leave _ W3 hp
  | goto t=>exact leave _ W3 hp
  | panic ch=>exact hp.elim
  | outgrown=>exact hp.elim
 refine ⟨w.heap.size,[],W1,{ target:=.fn (.func gf) lb,args:=#[.func (.yield w.heap.size) #[] #[]] },W1,gf,
  #[.func (.yield w.heap.size) #[] #[]]++lb,W1,enter1,?_,?_,?_,fun _=>hn,?_⟩
 ·simp only [resolve,hg]
  simp [go_sem]
 ·intro f' _;trivial
 ·simp [invoke,go_sem,eg]
 ·refine (hsq J Jx abJ abJx (fun r A h=>by rw [hJ] at h;exact hGd r A h.1) round (by rw [hJ];exact ⟨inv1,hL1⟩)).mono ?_
  rintro e W2 ⟨⟨v,rfl⟩,h | h⟩
  ·rw [hJ] at h
   obtain ⟨hi2,b2⟩:=h
   have e:=run_endLoop (P:=P) b2 (by rw [hL];simp)
   exact ⟨none,_,by rw [hL] at e;exact e,hdone _ (hI.putObj _ hi2 (Nat.le_refl _) b2 rfl)⟩
  ·obtain ⟨r,hr,hs⟩:=h
   rw [hJx] at hs
   obtain ⟨c,hx2,b2⟩:=hs
   have e:=run_endLoop (P:=P) b2 (by rw [hL];simp)
   exact ⟨some c,_,by rw [hL] at e;exact e,hstop c r _ hr ((hIx c).putObj _ hx2 (Nat.le_refl _) b2 rfl)⟩
theorem range_tellNY {β:Type} {Good:World→Prop} {n:Nat} {g:Operand} {ps:Array Tmp} {assign body:Code} {Q:Exit→Act→World→Prop} {a:Act} {w:World} {l0:Nat} {r0:Loop} (hl0:w.heap[l0]? = some (.loop r0))
  (hn:1≤n) {gf:Nat} {lb:Array Value} (hg:a.eval g = .func (.func gf) #[] lb) (eg:∀ args w,(callFunc gf args).run P w = .ok (.enter gf args) w)
  (R:Nat→World→World→Prop) (hR1:∀ B X Y,w.heap.size≤B→Below B X Y→R B X Y) (hR2:∀ B B' X Y,B≤B'→R B' X Y→R B X Y) (hR3:∀ B X Y k,R B X Y→w.heap.size≤k→k<B→Y.heap[k]? = X.heap[k]?)
  {E:Nat→Nat→Nat→Array Value→World→Prop} {Kp:Nat→Nat→World→World→Prop} {N:Nat}
  (hseq:∀ (rec:Loop) (l:Nat) (J Jx:Nat→World→Prop),RFree (R (w.heap.size+1)) J→RFree (R (w.heap.size+1)) Jx→(∀ r A,J r A→Good A) →
   (∀ r c x W1,J r W1→r<N→E (w.heap.size+1) r c x W1→YieldAt Fence.wide (n-1-1) P l x W1 fun e W' =>
    (e = .returned (.bool true)∧J (r+1) W'∧Kp (w.heap.size+1) c W1 W')∨(e = .returned (.bool false)∧Jx (r+1) W'∧Kp (w.heap.size+1) c W1 W')) →
   J 0 (w.alloc (.loop rec)) →
   CallsIn Fence.wide (n-1) P gf (#[.func (.yield l) #[] #[]]++lb) (w.alloc (.loop rec)) fun e W'=>(∃ v,e = .returned v)∧(J N W'∨∃ r,r≤N∧Jx r W'))
  (hps:∀ b r c x W,E b r c x W→x.size=ps.size)
  (hKt:∀ {b c:Nat} {A B C:World},Kp b c A B→Kp b c B C→Kp b c A C) (hKl:∀ (c:Nat) (W:World) (r r':Loop),W.heap[w.heap.size]? = some (.loop r)→Kp (w.heap.size+1) c W (W.putObj w.heap.size (.loop r')))
  (I:Nat→World→Prop) (Ix:Code→Nat→World→Prop) (hIf:RFree (R w.heap.size) I) (hIxf:∀ c,RFree (R w.heap.size) (Ix c)) (hIs:∀ r W,I r W→w.heap.size≤W.heap.size) (hIxs:∀ c r W,Ix c r W→w.heap.size≤W.heap.size) (h0:I 0 w) (hGd:∀ r W,I r W→Good W)
  (Y:Nat→Nat→β→World→Prop) (G:Array Value→β→Act) (hY:∀ r c y,OwnFrom w.heap.size (fun (_:Unit) W=>Y r c y W))
  (hassign:∀ (l:Nat) (r c:Nat) (x:Array Value) (W:World) (K:Act→World→Prop),r<N→I r W→E (w.heap.size+1) r c x W→(∀ y W',(∀ o,W.heap[w.heap.size]? = some o→W'.heap[w.heap.size]? = some o)→Kp (w.heap.size+1) c W W'→I r W'→Y r c y W'→K (G a.tmps y) W') →
   assign.wpIn (Fence.wide.inRound l) (n-1-1) P (Exit.then K (fun _ _ _=>False)) { tmps:=(ps.zip x).foldl (fun t (p,v)=>t.setIfInBounds p v) a.tmps,defers:=[] } W)
  (hbody:∀ (l:Nat) (r c:Nat) (y:β) (W:World),w.heap.size≤l→(∃ r,W.heap[l]? = some (.loop r))→r<N→I r W→Y r c y W→body.wpIn (Fence.wide.inRound l) (n-1-1) P (tellPostN w.heap.size (Kp (w.heap.size+1) c) I Ix (r+1) W) (G a.tmps y) W)
  (hdone:∀ (W:World),I N W→Q .normal a W)
  (hstop:∀ (c:Code) (r:Nat) (W:World),r≤N→Ix c r W→c.wpIn (Fence.wide.inRound l0) n P Q a W) :
  (Code.rangeFunc g ps assign body).wpIn (Fence.wide.inRound l0) n P Q a w :=
 range_tellN hl0 hn hg eg R hR1 hR2 hR3 hseq hps hKt hKl I Ix hIf hIxf hIs hIxs h0 hGd (fun r c a' W=>∃ y,Y r c y W∧a'=G a.tmps y)
  (fun r c a' u W W' row h hg hr=>by obtain ⟨y,h1,h2⟩:=h;exact ⟨y,hY r c y u W W' row h1 hg hr,h2⟩)
  (fun l r c x W K h1 h2 h3 h4=>hassign l r c x W K h1 h2 h3 (fun y W' a1 a2 a3 a4=>h4 _ W' a1 a2 a3 ⟨y,a4,rfl⟩))
  (fun l r c a' W h1 h2 h3 h4 h5=>by obtain ⟨y,h6,rfl⟩:=h5;exact hbody l r c y W h1 h2 h3 h4 h6)
  hdone hstop
end
end Go.Proofs.YtjcpamjeekfblaaGreatDoor
