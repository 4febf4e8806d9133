/-
  Texts of mine that others lean on, one behind the other.
-/
import Derived.Shelf.Strings.Replace
import Derived.Shelf.LaysM
import Derived.Test.YtongedjlmohogaaGreatDoorProg
import Derived.KernelRfl
import Derived.Test.YtongedjlmohogaaGreatDoorPack19
import Derived.Test.YtongedjlmohogaaGreatDoorPack7
import Derived.Lib.CountLaws
import Derived.Lib.Replace
import Derived.Test.YtongedjlmohogaaGreatDoorPack21
import Derived.Test.YtongedjlmohogaaGreatDoorPack17
import Derived.Test.YtongedjlmohogaaGreatDoorPack18
import Derived.Test.YtongedjlmohogaaGreatDoorPack10
namespace Go.Proofs
open Go.Shelf
def Tryz.lays155_ren:Go.Shelf.Ren:=⟨fun | 155=>112 | 154=>133 | 138=>148 | 165=>149 | 143=>150 | 166=>28 | 197=>151 | 169=>31 | 195=>160 | 218=>161 | 240=>48 | 241=>162 | 219=>159 | 260=>163 | 276=>77 | 277=>181 | 217=>177 | 225=>178 | 224=>179 | 267=>180 | 266=>197 | 314=>198 | n=>n,fun | 9=>9 | 3=>3 | 4=>4 | 72=>65 | 0=>0 | 76=>69 | 105=>186 | 21=>21 | 5=>5 | 70=>62 | 20=>20 | 37=>63 | 75=>67 | 127=>90 | 164=>103 | 46=>116 | 119=>112 | 139=>115 | 138=>114 | 146=>218 | 51=>154 | 80=>73 | n=>n,fun | 1=>5 | 3=>0 | 4=>1 | n=>n⟩
theorem Tryz.lays155:Go.Proofs.Lays.n155 Tryz.prog Tryz.lays155_ren:={
  mixed:=by kernel_rfl
  f138:=Tryz.func148.trans (congrArg some (by kernel_rfl))
  f143:=Tryz.func150.trans (congrArg some (by kernel_rfl))
  f154:=Tryz.func133.trans (congrArg some (by kernel_rfl))
  f155:=Tryz.func112.trans (congrArg some (by kernel_rfl))
  f165:=Tryz.func149.trans (congrArg some (by kernel_rfl))
  f166:=Tryz.func28.trans (congrArg some (by kernel_rfl))
  f169:=Tryz.func31.trans (congrArg some (by kernel_rfl))
  f195:=Tryz.func160.trans (congrArg some (by kernel_rfl))
  f197:=Tryz.func151.trans (congrArg some (by kernel_rfl))
  f217:=Tryz.func177.trans (congrArg some (by kernel_rfl))
  f218:=Tryz.func161.trans (congrArg some (by kernel_rfl))
  f219:=Tryz.func159.trans (congrArg some (by kernel_rfl))
  f224:=Tryz.func179.trans (congrArg some (by kernel_rfl))
  f225:=Tryz.func178.trans (congrArg some (by kernel_rfl))
  f240:=Tryz.func48.trans (congrArg some (by kernel_rfl))
  f241:=Tryz.func162.trans (congrArg some (by kernel_rfl))
  f260:=Tryz.func163.trans (congrArg some (by kernel_rfl))
  f266:=Tryz.func197.trans (congrArg some (by kernel_rfl))
  f267:=Tryz.func180.trans (congrArg some (by kernel_rfl))
  f276:=Tryz.func77.trans (congrArg some (by kernel_rfl))
  f277:=Tryz.func181.trans (congrArg some (by kernel_rfl))
  f314:=Tryz.func198.trans (congrArg some (by kernel_rfl))
  t0:=Tryz.underlying0
  a0:=Tryz.isAgg0
  z0:=Tryz.sizeOf0
  v0:=Tryz.zeroValue0
  t3:=Tryz.underlying3
  a3:=Tryz.isAgg3
  z3:=Tryz.sizeOf3
  v3:=Tryz.zeroValue3
  t4:=Tryz.underlying4
  a4:=Tryz.isAgg4
  z4:=Tryz.sizeOf4
  v4:=Tryz.zeroValue4
  t5:=Tryz.underlying5
  a5:=Tryz.isAgg5
  z5:=Tryz.sizeOf5
  v5:=Tryz.zeroValue5
  t9:=Tryz.underlying9
  a9:=Tryz.isAgg9
  z9:=Tryz.sizeOf9
  v9:=Tryz.zeroValue9
  t20:=Tryz.underlying20
  a20:=Tryz.isAgg20
  z20:=Tryz.sizeOf20
  v20:=Tryz.zeroValue20
  t21:=Tryz.underlying21
  a21:=Tryz.isAgg21
  z21:=Tryz.sizeOf21
  v21:=Tryz.zeroValue21
  t37:=Tryz.underlying63
  a37:=Tryz.isAgg63
  z37:=Tryz.sizeOf63
  v37:=Tryz.zeroValue63
  t46:=Tryz.underlying116
  a46:=Tryz.isAgg116
  z46:=Tryz.sizeOf116
  v46:=Tryz.zeroValue116
  t51:=Tryz.underlying154
  a51:=Tryz.isAgg154
  z51:=Tryz.sizeOf154
  v51:=Tryz.zeroValue154
  t70:=Tryz.underlying62
  a70:=Tryz.isAgg62
  z70:=Tryz.sizeOf62
  v70:=Tryz.zeroValue62
  t72:=Tryz.underlying65
  a72:=Tryz.isAgg65
  z72:=Tryz.sizeOf65
  v72:=Tryz.zeroValue65
  t75:=Tryz.underlying67
  a75:=Tryz.isAgg67
  z75:=Tryz.sizeOf67
  v75:=Tryz.zeroValue67
  t76:=Tryz.underlying69
  a76:=Tryz.isAgg69
  z76:=Tryz.sizeOf69
  v76:=Tryz.zeroValue69
  t105:=Tryz.underlying186
  a105:=Tryz.isAgg186
  z105:=Tryz.sizeOf186
  v105:=Tryz.zeroValue186
  t119:=Tryz.underlying112
  a119:=Tryz.isAgg112
  z119:=Tryz.sizeOf112
  t127:=Tryz.underlying90
  a127:=Tryz.isAgg90
  z127:=Tryz.sizeOf90
  v127:=Tryz.zeroValue90
  t138:=Tryz.underlying114
  a138:=Tryz.isAgg114
  z138:=Tryz.sizeOf114
  v138:=Tryz.zeroValue114
  t139:=Tryz.underlying115
  a139:=Tryz.isAgg115
  z139:=Tryz.sizeOf115
  v139:=Tryz.zeroValue115
  t146:=Tryz.underlying218
  a146:=Tryz.isAgg218
  z146:=Tryz.sizeOf218
  v146:=Tryz.zeroValue218
  t164:=Tryz.underlying103
  a164:=Tryz.isAgg103
  z164:=Tryz.sizeOf103
  v164:=Tryz.zeroValue103
  g1:=by kernel_rfl
  g3:=by kernel_rfl
  g4:=by kernel_rfl }
def Tryz.laysM155_ren:Go.Shelf.Ren:=⟨fun | 155=>112 | 154=>133 | 138=>148 | 165=>149 | 143=>150 | 166=>28 | 197=>151 | 169=>31 | 195=>160 | 218=>161 | 240=>48 | 241=>162 | 219=>159 | 260=>163 | 276=>77 | 277=>181 | 217=>177 | 225=>178 | 224=>179 | 267=>180 | 266=>197 | 314=>198 | n=>n,fun | 9=>9 | 3=>3 | 4=>4 | 72=>65 | 0=>0 | 76=>69 | 105=>186 | 21=>21 | 5=>5 | 70=>62 | 20=>20 | 37=>63 | 75=>67 | 127=>90 | 164=>103 | 46=>116 | 119=>112 | 139=>115 | 138=>114 | 146=>218 | 51=>154 | 80=>73 | n=>n,fun | 1=>5 | 3=>0 | 4=>1 | n=>n⟩
theorem Tryz.laysM155:Go.Proofs.LaysM.n155 Tryz.prog Tryz.laysM155_ren:={
  mixed:=by kernel_rfl
  f138:=Tryz.func148.trans (congrArg some (by kernel_rfl))
  f143:=Tryz.func150.trans (congrArg some (by kernel_rfl))
  f154:=Tryz.func133.trans (congrArg some (by kernel_rfl))
  f155:=Tryz.func112.trans (congrArg some (by kernel_rfl))
  f165:=Tryz.func149.trans (congrArg some (by kernel_rfl))
  f166:=Tryz.func28.trans (congrArg some (by kernel_rfl))
  f169:=Tryz.func31.trans (congrArg some (by kernel_rfl))
  f195:=Tryz.func160.trans (congrArg some (by kernel_rfl))
  f197:=Tryz.func151.trans (congrArg some (by kernel_rfl))
  f217:=Tryz.func177.trans (congrArg some (by kernel_rfl))
  f218:=Tryz.func161.trans (congrArg some (by kernel_rfl))
  f219:=Tryz.func159.trans (congrArg some (by kernel_rfl))
  f224:=Tryz.func179.trans (congrArg some (by kernel_rfl))
  f225:=Tryz.func178.trans (congrArg some (by kernel_rfl))
  f240:=Tryz.func48.trans (congrArg some (by kernel_rfl))
  f241:=Tryz.func162.trans (congrArg some (by kernel_rfl))
  f260:=Tryz.func163.trans (congrArg some (by kernel_rfl))
  f266:=Tryz.func197.trans (congrArg some (by kernel_rfl))
  f267:=Tryz.func180.trans (congrArg some (by kernel_rfl))
  f276:=Tryz.func77.trans (congrArg some (by kernel_rfl))
  f277:=Tryz.func181.trans (congrArg some (by kernel_rfl))
  f314:=Tryz.func198.trans (congrArg some (by kernel_rfl))
  t0:=Tryz.underlying0
  a0:=Tryz.isAgg0
  z0:=Tryz.sizeOf0
  v0:=Tryz.zeroValue0
  t3:=Tryz.underlying3
  a3:=Tryz.isAgg3
  z3:=Tryz.sizeOf3
  v3:=Tryz.zeroValue3
  t4:=Tryz.underlying4
  a4:=Tryz.isAgg4
  z4:=Tryz.sizeOf4
  v4:=Tryz.zeroValue4
  t5:=Tryz.underlying5
  a5:=Tryz.isAgg5
  z5:=Tryz.sizeOf5
  v5:=Tryz.zeroValue5
  t9:=Tryz.underlying9
  a9:=Tryz.isAgg9
  z9:=Tryz.sizeOf9
  v9:=Tryz.zeroValue9
  t20:=Tryz.underlying20
  a20:=Tryz.isAgg20
  z20:=Tryz.sizeOf20
  v20:=Tryz.zeroValue20
  t21:=Tryz.underlying21
  a21:=Tryz.isAgg21
  z21:=Tryz.sizeOf21
  v21:=Tryz.zeroValue21
  t37:=Tryz.underlying63
  a37:=Tryz.isAgg63
  z37:=Tryz.sizeOf63
  v37:=Tryz.zeroValue63
  t46:=Tryz.underlying116
  a46:=Tryz.isAgg116
  z46:=Tryz.sizeOf116
  v46:=Tryz.zeroValue116
  t51:=Tryz.underlying154
  a51:=Tryz.isAgg154
  z51:=Tryz.sizeOf154
  v51:=Tryz.zeroValue154
  t70:=Tryz.underlying62
  a70:=Tryz.isAgg62
  z70:=Tryz.sizeOf62
  v70:=Tryz.zeroValue62
  t72:=Tryz.underlying65
  a72:=Tryz.isAgg65
  z72:=Tryz.sizeOf65
  v72:=Tryz.zeroValue65
  t75:=Tryz.underlying67
  a75:=Tryz.isAgg67
  z75:=Tryz.sizeOf67
  v75:=Tryz.zeroValue67
  t76:=Tryz.underlying69
  a76:=Tryz.isAgg69
  z76:=Tryz.sizeOf69
  v76:=Tryz.zeroValue69
  t105:=Tryz.underlying186
  a105:=Tryz.isAgg186
  z105:=Tryz.sizeOf186
  v105:=Tryz.zeroValue186
  t119:=Tryz.underlying112
  a119:=Tryz.isAgg112
  z119:=Tryz.sizeOf112
  t127:=Tryz.underlying90
  a127:=Tryz.isAgg90
  z127:=Tryz.sizeOf90
  v127:=Tryz.zeroValue90
  t138:=Tryz.underlying114
  a138:=Tryz.isAgg114
  z138:=Tryz.sizeOf114
  v138:=Tryz.zeroValue114
  t139:=Tryz.underlying115
  a139:=Tryz.isAgg115
  z139:=Tryz.sizeOf115
  v139:=Tryz.zeroValue115
  t146:=Tryz.underlying218
  a146:=Tryz.isAgg218
  z146:=Tryz.sizeOf218
  v146:=Tryz.zeroValue218
  t164:=Tryz.underlying103
  a164:=Tryz.isAgg103
  z164:=Tryz.sizeOf103
  v164:=Tryz.zeroValue103
  g1:=by kernel_rfl
  g3:=by kernel_rfl
  g4:=by kernel_rfl
  t80:=Tryz.underlying73
  a80:=Tryz.isAgg73
  z80:=Tryz.sizeOf73
  v80:=Tryz.zeroValue73
  i0:=by kernel_rfl
  i3:=by kernel_rfl
  i4:=by kernel_rfl
  i5:=by kernel_rfl
  i9:=by kernel_rfl
  i20:=by kernel_rfl
  i21:=by kernel_rfl
  i37:=by kernel_rfl
  i46:=by kernel_rfl
  i51:=by kernel_rfl
  i70:=by kernel_rfl
  i72:=by kernel_rfl
  i75:=by kernel_rfl
  i76:=by kernel_rfl
  i80:=by kernel_rfl
  i105:=by kernel_rfl
  i127:=by kernel_rfl
  i138:=by kernel_rfl
  i139:=by kernel_rfl
  i146:=by kernel_rfl
  i164:=by kernel_rfl
  m1:=by kernel_rfl
  s1_3:=fun w h=>Go.Proofs.cell_of_shapedOpen_int (zero:=#[.int .i64 0]) (t:=3) h (of_decide_eq_true (by kernel_rfl)) (by kernel_rfl) rfl (by kernel_rfl) (by kernel_rfl) Tryz.underlying3
  m3:=by kernel_rfl
  m4:=by kernel_rfl }
theorem Tryz.Builder_Extra_155:Builder.Extra Tryz.prog Tryz.lays155_ren:={
  sizeBuilder:=by kernel_rfl
  liesBuilder:=by kernel_rfl
  t5:=Tryz.underlying5
  a5:=Tryz.isAgg5
  z5:=Tryz.sizeOf5
  v5:=Tryz.zeroValue5
  infoByte:=by kernel_rfl
  cellsByte:=by kernel_rfl
  sizeByte:=by kernel_rfl
  neB5:=by decide }
end Go.Proofs

namespace Go.Proofs.YtongedjlmohogaaGreatDoor
open Go.RowKit Go.Shelf
theorem rep_one (c:UInt8) (new:List UInt8):∀ (n:Nat) (s:List UInt8),s.length≤n→Lib.replaceK [c] new (Lib.count s [c]) s=s.flatMap (fun x=>if x=c then new else [x]):=by
 have none_map:∀ a:List UInt8,(∀ x ∈ a,x≠c)→a.flatMap (fun x=>if x=c then new else [x])=a:=by
  intro a
  induction a with
  | nil=>intro _;rfl
  | cons b a ih =>
   intro h
   rw [List.flatMap_cons,if_neg (h b (by simp)),ih (fun x hx=>h x (by simp [hx]))]
   rfl
 have first:∀ l:List UInt8,(∀ x ∈ l,x≠c)∨∃ a r,l=a++c :: r∧∀ x ∈ a,x≠c:=by
  intro l
  induction l with
  | nil=>exact .inl (fun x h=>by simp at h)
  | cons b l ih =>
   by_cases hb:b=c
   ·exact .inr ⟨[],l,by simp [hb],fun x h=>by simp at h⟩
   ·rcases ih with h | ⟨a,r,rfl,h⟩
    ·exact .inl (fun x hx=>by
      simp at hx
      rcases hx with rfl | hx
      ·exact hb
      ·exact h x hx)
    ·exact .inr ⟨b :: a,r,rfl,fun x hx=>by
      simp at hx
      rcases hx with rfl | hx
      ·exact hb
      ·exact h x hx⟩
 intro n
 induction n with
 | zero =>
  intro s hs
  obtain rfl:s=[]:=List.length_eq_zero_iff.1 (by omega)
  rw [Lib.count_miss (by rfl)]
  rfl
 | succ n ih =>
  intro s hs
  rcases first s with h | ⟨a,r,rfl,h⟩
  ·rw [Lib.count_miss (by rw [Lib.index_one];exact idx_no s c h),none_map s h]
   rfl
  ·have hi:Lib.index (a++c :: r) [c]=(a.length:Int):=by rw [Lib.index_one];exact idx_yes a c r h
   have hd:(a++c :: r).drop (a.length+[c].length)=r:=by simp
   rw [Lib.count_hit (by simp) hi,hd,Nat.add_comm,Lib.replaceK_hit _ _ _ _ _ hi,hd,ih r (by simp at hs;omega)]
   rw [List.flatMap_append,none_map a h,List.flatMap_cons,if_pos rfl]
   simp
theorem repAll_one (c:UInt8) (new:List UInt8) (hne:([c] == new)=false) (s:List UInt8):Lib.replaceAll s [c] new=s.flatMap (fun x=>if x=c then new else [x]):=by
 unfold Lib.replaceAll Lib.replace
 rw [if_neg (by rw [hne];exact Bool.false_ne_true)]
 have:Lib.replaceNum s [c] (-1)=Lib.count s [c]:=by unfold Lib.replaceNum;rw [if_pos (.inl (by decide))]
 rw [this]
 exact rep_one c new _ s (Nat.le_refl _)
theorem wrN_two:∀ l:List UInt8,(l.flatMap (fun x=>if x=126 then [126,48] else [x])).flatMap (fun x=>if x=47 then [126,49] else [x])=wrN l
 | []=>rfl
 | c :: t=>by
  rw [List.flatMap_cons,List.flatMap_append,wrN_two t,wrN]
  by_cases h:c=126
  ·subst h
   rw [if_pos rfl,if_pos rfl]
   rfl
  ·rw [if_neg h,if_neg h]
   by_cases h2:c=47
   ·subst h2
    rw [if_pos rfl]
    rfl
   ·rw [if_neg h2,List.flatMap_cons,if_neg h2]
    rfl
theorem flat_len (f:UInt8→List UInt8) (k:Nat) (hf:∀ x,(f x).length≤k):∀ l:List UInt8,(l.flatMap f).length≤k*l.length
 | []=>by simp
 | c :: t=>by
  rw [List.flatMap_cons,List.length_append,List.length_cons]
  have h1:=flat_len f k hf t
  have h2:=hf c
  rw [Nat.mul_add,Nat.mul_one]
  omega
def MxI (w:World):Prop:=∃ m,w.cell? ⟨Tryz.laysM155_ren.g 1,0,none⟩=some (.int .i64 m)
theorem MxI.kept {w w':World} (h:MxI w) (hb:Below w.heap.size w w'):MxI w':=by
 obtain ⟨m,hm⟩:=h
 exact ⟨m,(hb.cell (p:=⟨Tryz.laysM155_ren.g 1,0,none⟩) (cell_ltT hm)).trans hm⟩
theorem MxI.below {n:Nat} {w w':World} (h:MxI w) (hb:Below n w w') (hn:∀ m,w.cell? ⟨Tryz.laysM155_ren.g 1,0,none⟩=some (.int .i64 m)→Tryz.laysM155_ren.g 1<n):MxI w':=by
 obtain ⟨m,hm⟩:=h
 exact ⟨m,(hb.cell (p:=⟨Tryz.laysM155_ren.g 1,0,none⟩) (hn m hm)).trans hm⟩
theorem MxI.of_shape {w:World} (h:w.ShapedOpen Tryz.prog):MxI w:=Tryz.laysM155.s1_3 w h
theorem repl_calls (l:List UInt8) (c:UInt8) (d:UInt8) (x:UInt8) (hl:l.length≤4294967280) (w:World) (hm:MxI w) (hne:([c] == [d,x])=false):Calls Tryz.prog 112 #[.string (mkL l),.string ⟨#[c]⟩,.string ⟨#[d,x]⟩] w fun e w'=>e = .returned (.string (mkL (l.flatMap (fun y=>if y=c then [d,x] else [y]))))∧Below w.heap.size w w':=by
 obtain ⟨m,hm⟩:=hm
 have hc:=Lib.count_le l [c]
 have h:=Any.strings_ReplaceAll Tryz.lays155 Tryz.Builder_Extra_155 (mkL l) ⟨#[c]⟩ ⟨#[d,x]⟩ m w (by rw [mkL_size];omega) hm (by show 1≤1;decide) (by
  rw [mkL_size]
  have:Lib.countB (mkL l) ⟨#[c]⟩=Lib.count l [c]:=by show Lib.count (mkL l).data.toList _=_;rw [data_mkL]
  rw [this]
  show l.length+Lib.count l [c]*2≤_
  omega)
 refine h.mono ?_
 rintro e w' ⟨rfl,hb⟩
 refine ⟨?_,hb⟩
 rw [data_mkL]
 have:=repAll_one c [d,x] hne l
 show Ending.returned (.string ⟨(Lib.replaceAll l [c] [d,x]).toArray⟩)=_
 rw [this]
 rfl
set_option maxRecDepth 10000 in
theorem written_calls20 (l:List UInt8) (hl:l.length≤2147483640) (w:World) (hm:MxI w):Calls Tryz.prog 94 #[.string (mkL l)] w fun e w'=>e = .returned (.string (mkL (wrN l)))∧Below w.heap.size w w':=by
 have hl2:=flat_len (fun y=>if y=126 then [126,48] else [y]) 2 (fun x=>by show (if x=126 then [126,48] else [x]).length≤2;split <;> simp) l
 have c1:=hid (repl_calls l 126 126 48 (by omega) w hm (by decide))
 have c2:=hid (fun (u:World) (hu:MxI u)=>repl_calls (l.flatMap (fun y=>if y=126 then [126,48] else [y])) 47 126 49 (by omega) u hu (by decide))
 rw [wrN_two] at c2
 generalize l.flatMap (fun y=>if y=126 then [126,48] else [y])=l2 at c1 c2
 generalize mkL l2=s2 at c1 c2
 generalize mkL l=s1 at c1 ⊢
 have hm':=hid hm
 clear hl hl2 hm
 go_enter Tryz.func94,Tryz.ntmps94
 go_wp2_with fail
 refine Calls.mono c1.out ?_
 rintro e w1 ⟨rfl,b1⟩
 have M1:=hid (hm'.out.kept b1)
 have B1:=hid b1
 clear b1 c1
 go_wp2_with fail
 refine Calls.mono (c2.out _ M1.out) ?_
 rintro e w2 ⟨rfl,b2⟩
 have B2:=hid (B1.out.trans (b2.mono B1.out.size))
 clear b2 c2
 go_wp2
 go_ret
 exact ⟨rfl,B2.out⟩
theorem wrL_take {L:List (List UInt8)} {i:Nat} {a:List UInt8} (h:L[i]? = some a):wrL (L.take (i+1))=wrL (L.take i)++[47]++wrN a:=by
 rw [List.take_add_one,h,wrL_app]
 simp [wrL]
theorem wrL_part (L:List (List UInt8)) (i:Nat):(wrL (L.take i)).length≤(wrL L).length:=by
 conv=>rhs;rw [← List.take_append_drop i L,wrL_app,List.length_append]
 omega
set_option maxRecDepth 10000 in
set_option maxHeartbeats 4000000 in
theorem print_calls (L:List (List UInt8)) (ao:Option Addr) (N cap:Nat) (hN:Hid (L.length=N)) (hn:N≤4294967296) (he:Hid (∀ a ∈ L,a.length≤2147483640)) (hw:Hid ((wrL L).length≤140737488355328)) (w:World) (hk:Hid (KeysAt w ao (L.map mkL))) (hm:Hid (MxI w)) :
  Calls Tryz.prog 75 #[.slice ao N cap] w fun e w'=>e = .returned (.string (mkL (wrL L)))∧Below w.heap.size w w':=by
 obtain ⟨m,hmm⟩:∃ m,Hid (w.heap.size=m):=⟨_,rfl⟩
 have hNi:(N:Int)≤4294967296:=by omega
 have D0:=hid (BdI.fresh0 w)
 have al:=hid (show Below w.heap.size w (w.alloc (.cells #[.pointer none,.slice none 0 0] 65)) from (Below.refl _ _).alloc (Nat.le_refl _) _)
 have sz0:=hid (show (w.alloc (.cells #[.pointer none,.slice none 0 0] 65)).heap.size=m+1 by rw [World.size_alloc,hmm.out])
 rw [hmm.out] at D0 al
 go_enter Tryz.func75,Tryz.ntmps75
 go_wp2
 rw [hmm.out]
 go_loopw [8] (fun ii wr=>∃ i:Nat,i≤N∧ii = .int .i64 (i:Int)∧Hid (BdI wr m (m+1) (wrL (L.take i)))∧Hid (Below m w wr)∧Hid (m+1≤wr.heap.size)) (fun ii _=>N-(intOf ii).toNat)
 case atStart=>exact ⟨0,Nat.zero_le _,rfl,D0,al,hid (Nat.le_of_eq sz0.out.symm)⟩
 case round =>
  clear D0 al sz0
  obtain ⟨i,hi,rfl,hD,hB,hz⟩:=hrel
  by_cases hlt:i<N
  ·have hii:(i:Int)<(N:Int):=by omega
   obtain ⟨a,ha⟩:∃ a,L[i]? = some a:=⟨_,List.getElem?_eq_getElem (by rw [hN.out];exact hlt)⟩
   obtain ⟨-,g,o,rfl,hg,cg⟩:=hk.out i (mkL a) (by rw [List.getElem?_map,ha];rfl)
   have hB0:Below w.heap.size w wr:=by rw [hmm.out];exact hB.out
   have s1:=(hB0.cell (p:=⟨g,o+i,none⟩) hg).trans cg
   have M1:=hid (hm.out.kept hB0)
   have hal:=he.out a (List.mem_of_getElem? ha)
   have hw1:=hid (wrL_take ha)
   have hw2:=hid (Nat.le_trans (wrL_part L (i+1)) hw.out)
   have cw:=hid (fun (u:World) (hu:MxI u)=>written_calls20 a hal u hu)
   have hsz:=hid (show (mkL (wrN a)).size+(wrL (L.take i)).length+1≤140737488355328 by have:=hw2.out;rw [hw1.out] at this;simp at this;rw [mkL_size];omega)
   have hdt:=hid (data_mkL (wrN a))
   rw [hw1.out] at hw2
   generalize mkL a=az at s1 cw
   generalize mkL (wrN a)=bz at cw hsz hdt
   generalize wrN a=wa at hw1 hw2 hdt
   clear ha cg hg hB0 hal
   go_wp2_with fail
   refine Calls.mono (bbyte_calls m (m+1) _ 47 47 rfl (Nat.lt_succ_self _) (by have:=hsz.out;omega) _ hD.out hz.out) ?_
   rintro e w1 ⟨rfl,d1,b1⟩
   have D1:=hid d1
   have B1:=hid (hB.out.trans b1)
   have z1:=hid (Nat.le_trans hz.out b1.size)
   have M2:=hid (M1.out.below b1 (fun q hq=>by
    obtain ⟨q',hq'⟩:=hm.out
    have:=cell_ltT hq'
    rw [hmm.out] at this
    exact this))
   clear d1 b1 hD hB hz M1 s1
   go_wp2_with fail
   refine Calls.mono (cw.out _ M2.out) ?_
   rintro e w2 ⟨rfl,b2⟩
   have D2:=hid (D1.out.kept b2)
   have B2:=hid (B1.out.trans (b2.mono (by have:=z1.out;omega)))
   have z2:=hid (Nat.le_trans z1.out b2.size)
   clear b2 D1 B1 z1 cw
   go_wp2_with fail
   refine Calls.mono (bstr_calls m (m+1) _ bz (Nat.lt_succ_self _) (by have:=hsz.out;simp;omega) _ D2.out z2.out) ?_
   rintro e w3 ⟨rfl,d3,b3⟩
   rw [hdt.out,← hw1.out] at d3
   have D3:=hid d3
   have B3:=hid (B2.out.trans b3)
   have z3:=hid (Nat.le_trans z2.out b3.size)
   clear d3 b3 D2 B2 z2
   go_wp2
   go_roundw
   case rel=>exact ⟨i+1,by omega,by simp,D3,B3,z3⟩
   case measure=>simp [intOf];omega
  ·obtain rfl:i=N:=by omega
   have hL:L.take i=L:=List.take_of_length_le (by rw [hN.out];exact Nat.le_refl _)
   rw [hL] at hD
   go_wp2_with fail
   refine Calls.mono (bstring_calls m (m+1) m _ _ hD.out (Nat.le_succ _) hz.out) ?_
   rintro e w3 ⟨rfl,b3,-⟩
   have B3:=hid (hB.out.trans b3)
   clear b3
   go_wp2
   go_ret
   exact ⟨rfl,by rw [hmm.out];exact B3.out⟩
end Go.Proofs.YtongedjlmohogaaGreatDoor

namespace Go.Proofs.YtongedjlmohogaaGreatDoor
open Go.RowKit Go.Shelf
theorem lk_mkD {l:List UInt8} {i:Nat} {c:UInt8} (h:l[i]? = some c):lk (mkL l) i=c.toNat:=by
 obtain ⟨hi,e⟩:=List.getElem?_eq_some_iff.1 h
 have hs:i<(mkL l).size:=by rw [mkL_size];exact hi
 rw [lk_at _ _ hs,← e]
 rfl
theorem plN_same {s t:ByteArray}:∀ i,(∀ j,j<i→lk s j=lk t j)→plN s i=plN t i
 | 0,_=>rfl
 | i+1,h=>by rw [plN,plN,plN_same i (fun j hj=>h j (by omega)),h i (by omega)]
theorem dgt (x:Nat) (h:x<10):(UInt8.ofNat (48+x)).toNat=48+x:=by
 rw [UInt8.toNat_ofNat']
 omega
theorem dec_digit:∀ (u:Nat),∀ c ∈ Lib.decDigits u,48≤c.toNat∧c.toNat≤57
 | u,c,h=>by
  rw [Lib.decDigits] at h
  split at h
  ·rename_i h10
   rw [List.mem_singleton] at h
   subst h
   rw [dgt u h10]
   omega
  ·rename_i h10
   rcases List.mem_append.1 h with h | h
   ·exact dec_digit (u / 10) c h
   ·rw [List.mem_singleton] at h
    subst h
    rw [dgt _ (by omega)]
    omega
termination_by u=>u
decreasing_by omega
theorem dec_val (u:Nat):plN (mkL (Lib.decDigits u)) (Lib.decDigits u).length=u:=by
  rw [Lib.decDigits]
  split
  ·rename_i h10
   show plN _ 0*10+(lk (mkL [UInt8.ofNat (48+u)]) 0-48)=u
   rw [lk_mkD (c:=UInt8.ofNat (48+u)) rfl,dgt u h10,plN]
   omega
  ·rename_i h10
   rw [List.length_append,List.length_singleton]
   show plN _ _*10+(lk _ _-48)=u
   rw [lk_mkD (c:=UInt8.ofNat (48+u % 10)) (by rw [List.getElem?_append_right (Nat.le_refl _)];simp),dgt _ (by omega),
    plN_same (t:=mkL (Lib.decDigits (u / 10))) _ (fun j hj=>by
     obtain ⟨c,hc⟩:∃ c,(Lib.decDigits (u / 10))[j]? = some c:=⟨_,List.getElem?_eq_getElem hj⟩
     rw [lk_mkD hc,lk_mkD (c:=c) (by rw [List.getElem?_append_left hj];exact hc)]),dec_val (u / 10)]
   omega
termination_by u
decreasing_by omega
theorem dec_head:∀ (u:Nat),0<u→∃ c,(Lib.decDigits u)[0]? = some c∧c.toNat≠48
 | u,h=>by
  rw [Lib.decDigits]
  split
  ·rename_i h10
   exact ⟨_,rfl,by rw [dgt u h10];omega⟩
  ·rename_i h10
   obtain ⟨c,hc,h48⟩:=dec_head (u / 10) (by omega)
   exact ⟨c,by rw [List.getElem?_append_left (List.getElem?_eq_some_iff.1 hc).1];exact hc,h48⟩
termination_by u=>u
decreasing_by omega
theorem dec_len:∀ (k u:Nat),u<10 ^ (k+1)→(Lib.decDigits u).length≤k+1
 | 0,u,h=>by rw [Lib.decDigits,dif_pos (by simpa using h)];simp
 | k+1,u,h=>by
  rw [Lib.decDigits]
  split
  ·simp
  ·have:=dec_len k (u / 10) (by rw [Nat.pow_succ] at h;omega)
   rw [List.length_append,List.length_singleton]
   omega
theorem dec_one (u:Nat):1≤(Lib.decDigits u).length:=by
 rw [Lib.decDigits]
 split <;> simp
theorem itoa_nat (i:Nat):Lib.itoa (i:Int)=Lib.decDigits i:=by
 unfold Lib.itoa
 rw [if_neg (by omega),Int.toNat_natCast]
theorem itoa_place {i:Nat} (h:i<1000000000000000000):plB (mkL (Lib.itoa (i:Int)))=true∧plN (mkL (Lib.itoa (i:Int))) (mkL (Lib.itoa (i:Int))).size=i:=by
 rw [itoa_nat,mkL_size]
 refine ⟨?_,dec_val i⟩
 have hl:=dec_len 17 i (by have:(10:Nat) ^ (17+1)=1000000000000000000:=(by decide);omega)
 unfold plB
 rw [Bool.and_eq_true,decide_eq_true_eq,decide_eq_true_eq,mkL_size]
 refine ⟨⟨dec_one i,hl,fun h0=>?_⟩,fun j hj=>?_⟩
 ·by_cases hi:0<i
  ·obtain ⟨c,hc,h48⟩:=dec_head i hi
   rw [lk_mkD hc] at h0
   exact absurd h0 h48
  ·obtain rfl:i=0:=by omega
   rw [Lib.decDigits,dif_pos (by decide)]
   rfl
 ·obtain ⟨c,hc⟩:∃ c,(Lib.decDigits i)[j]? = some c:=⟨_,List.getElem?_eq_getElem hj⟩
  rw [lk_mkD hc]
  exact dec_digit i c (List.mem_of_getElem? hc)
end Go.Proofs.YtongedjlmohogaaGreatDoor

namespace Go.Proofs.YtongedjlmohogaaGreatDoor
open Go.RowKit Go.Shelf
def NxS (rest:List Nat):Prop:=rest=[]∨∃ x r,rest=x :: r∧(x=46∨x=91)
section
variable {u:ByteArray} {a:Nat} {l r:List Nat}
theorem lk_of {i x:Nat} (h:(byts u)[i]? = some x):i<u.size∧lk u i=x :=
 ⟨by have:=(List.getElem?_eq_some_iff.1 h).1;rwa [byts_length] at this,by rw [lk_byteAt];exact byts_byteAt h⟩
theorem lk_drop (h:(byts u).drop a=l) {j x:Nat} (hj:l[j]? = some x):a+j<u.size∧lk u (a+j)=x:=by
 rw [← h,List.getElem?_drop] at hj
 exact lk_of hj
theorem hasB_of {i x y:Nat} (hi:i<u.size) (h:lk u i=x):hasB u i y=decide (x=y):=by
 unfold hasB
 rw [decide_eq_true hi,h,Bool.true_and]
theorem byts_to (k:Nat):byts (u.extract k u.size)=(byts u).drop k:=(byts_from u k).1
theorem drop_next {x:Nat} (h:(byts u).drop a=x :: l):(byts u).drop (a+1)=l:=by rw [← List.drop_drop,h];rfl
end
theorem rd_word {u nm:ByteArray} {a n:Nat} {rest:List Nat} (hn:IsWd nm n) (h0:0<n) (hz:n=nm.size) (hu:(byts u).drop a=46 :: (byts nm++rest)) (hr:NxS rest):IsRead u a (some ⟨1,nm,0⟩) (a+1+nm.size):=by
 obtain ⟨ha,h46⟩:=lk_drop hu (j:=0) (x:=46) rfl
 have hu1:=drop_next hu
 have hsub:byts (u.extract (a+1) u.size)=byts nm++rest:=by rw [byts_to,hu1]
 have hget:∀ j x,(byts nm++rest)[j]? = some x→j<(u.extract (a+1) u.size).size∧lk (u.extract (a+1) u.size) j=x:=fun j x hj=>lk_of (by rw [hsub];exact hj)
 have hsz:(u.extract (a+1) u.size).size=nm.size+rest.length:=by rw [← byts_length,hsub,List.length_append,byts_length]
 have hcut:u.extract (a+1) (a+1+nm.size)=nm:=by
  apply byts_inj
  have h:=byts_cut (u:=u) (a:=a+1) (l:=byts nm) (r:=rest) hu1
  rw [byts_length] at h
  exact h
 refine .inl ⟨h46,nm.size,⟨by omega,fun j hj=>?_,fun hlt=>?_⟩,?_,?_⟩
 ·have hj':(byts nm++rest)[j]? = some (lk nm j):=by
   rw [List.getElem?_append_left (by rw [byts_length];exact hj),byts_get nm j hj,byt_byteAt,← lk_byteAt]
  have h1:=hn.2.1 j (by omega)
  unfold wdOk at h1 ⊢
  rw [(hget j _ hj').2]
  exact h1
 ·rcases hr with rfl | ⟨x,r,rfl,hx⟩
  ·rw [List.length_nil] at hsz
   omega
  ·have hj':(byts nm++x :: r)[nm.size]? = some x:=by rw [List.getElem?_append_right (by rw [byts_length];exact Nat.le_refl _),byts_length,Nat.sub_self];rfl
   unfold wdOk
   rw [(hget _ _ hj').2]
   rcases hx with rfl | rfl
   ·rw [show ltrB 46=false by decide,show dgtB 46=false by decide];simp
   ·rw [show ltrB 91=false by decide,show dgtB 91=false by decide];simp
 ·unfold bpF
  rw [if_pos (by omega),hcut]
 ·unfold bpF
  rw [if_pos (by omega)]
theorem rd_star {u:ByteArray} {a:Nat} {rest:List Nat} (hu:(byts u).drop a=46 :: 42 :: rest):IsRead u a (some ⟨3,⟨#[]⟩,0⟩) (a+2):=by
 obtain ⟨ha,h46⟩:=lk_drop hu (j:=0) (x:=46) rfl
 obtain ⟨hb,h42⟩:=lk_drop hu (j:=1) (x:=42) rfl
 have hst:starF u (a+1)=(some ⟨3,⟨#[]⟩,0⟩,a+2):=by
  unfold starF
  rw [hasB_of hb h42,if_pos (by rfl)]
 have hsub:byts (u.extract (a+1) u.size)=42 :: rest:=by rw [byts_to,drop_next hu]
 refine .inl ⟨h46,0,⟨Nat.zero_le _,fun j hj=>absurd hj (Nat.not_lt_zero _),fun _=>?_⟩,?_,?_⟩
 ·unfold wdOk
  rw [(lk_of (u:=u.extract (a+1) u.size) (i:=0) (x:=42) (by rw [hsub];rfl)).2]
  decide
 ·unfold bpF
  rw [if_neg (Nat.lt_irrefl 0),hst]
 ·unfold bpF
  rw [if_neg (Nat.lt_irrefl 0),hst]
theorem rd_quote {u nm:ByteArray} {a:Nat} {rest:List Nat} (hb:badOf nm = -1) (hu:(byts u).drop a=91 :: 34 :: ((byts nm).flatMap oneL++34 :: 93 :: rest)):IsRead u a (some ⟨1,nm,0⟩) (a+((byts nm).flatMap oneL).length+4):=by
 obtain ⟨ha,h91⟩:=lk_drop hu (j:=0) (x:=91) rfl
 obtain ⟨hc,h34⟩:=lk_drop hu (j:=1) (x:=34) rfl
 have hq:=qt_read hb (drop_next hu)
 obtain ⟨hd,h93⟩:=lk_drop hu (j:=((byts nm).flatMap oneL).length+3) (x:=93) (by
  rw [List.getElem?_cons_succ,List.getElem?_cons_succ,List.getElem?_append_right (by omega)]
  rw [show ((byts nm).flatMap oneL).length+1-((byts nm).flatMap oneL).length=1 by omega]
  rfl)
 refine .inr (.inl ⟨h91,some ⟨1,nm,0⟩,a+1+((byts nm).flatMap oneL).length+2,.inl ⟨by rw [hasB_of hc h34];rfl,hq⟩,.inr ⟨?_,by simp,rfl,by omega⟩⟩)
 rw [show a+1+((byts nm).flatMap oneL).length+2=a+(((byts nm).flatMap oneL).length+3) by omega,hasB_of hd h93]
 rfl
theorem rd_num {u:ByteArray} {a:Nat} {p:Int} {rest:List Nat} (hp:0≤p∧p≤999999999999999999) (hu:(byts u).drop a=91 :: (byts (mkL (Lib.itoa p))++93 :: rest)):IsRead u a (some ⟨2,⟨#[]⟩,p⟩) (a+(Lib.itoa p).length+2):=by
 obtain ⟨i,rfl⟩:∃ i:Nat,p=(i:Int):=⟨p.toNat,by omega⟩
 obtain ⟨k1,k2⟩:=itoa_place (i:=i) (by omega)
 have hsz:(mkL (Lib.itoa (i:Int))).size=(Lib.itoa (i:Int)).length:=mkL_size _
 rw [← hsz]
 generalize mkL (Lib.itoa (i:Int))=D at *
 clear hsz
 obtain ⟨ha,h91⟩:=lk_drop hu (j:=0) (x:=91) rfl
 have hu1:=drop_next hu
 have hget:∀ j,j<D.size→a+1+j<u.size∧lk u (a+1+j)=lk D j:=fun j hj=>lk_drop hu1 (by
  rw [List.getElem?_append_left (by rw [byts_length];exact hj),byts_get D j hj,byt_byteAt,← lk_byteAt])
 obtain ⟨hd,h93⟩:=lk_drop hu1 (j:=D.size) (x:=93) (by rw [List.getElem?_append_right (by rw [byts_length];exact Nat.le_refl _),byts_length,Nat.sub_self];rfl)
 have hpl:=k1
 unfold plB at hpl
 rw [Bool.and_eq_true,decide_eq_true_eq,decide_eq_true_eq] at hpl
 obtain ⟨⟨z1,z2,z3⟩,z4⟩:=hpl
 have hcut:u.extract (a+1) (a+1+D.size)=D:=by
  apply byts_inj
  have h:=byts_cut (u:=u) (a:=a+1) (l:=byts D) (r:=93 :: rest) hu1
  rw [byts_length] at h
  exact h
 have hpre:∀ j,j≤D.size+1→(u.extract (a+1) (a+1+j)).size=j∧∀ q,q<j→lk (u.extract (a+1) (a+1+j)) q=lk u (a+1+q):=fun j hj=>by
  have h1:(u.extract (a+1) (a+1+j)).size=j:=by rw [ByteArray.size_extract];omega
  refine ⟨h1,fun q hq=>?_⟩
  rw [lk_at _ q (by omega),lk_at u _ (by omega),ByteArray.getElem_extract]
 have hfirst:=hget 0 (by omega)
 have hd0:=z4 0 (by omega)
 refine .inr (.inl ⟨h91,some ⟨2,⟨#[]⟩,(i:Int)⟩,a+1+D.size,.inr (.inr ⟨?_,?_,a+1+D.size,⟨by omega,by omega,fun j h1 h2=>?_,fun hlt=>?_⟩,?_,rfl⟩),.inr ⟨by rw [hasB_of hd h93];rfl,by simp,rfl,by omega⟩⟩)
 ·rw [hasB_of (u:=u) (i:=a+1) (x:=lk D 0) (by omega) hfirst.2]
  exact decide_eq_false (by omega)
 ·rw [hasB_of (u:=u) (i:=a+1) (x:=lk D 0) (by omega) hfirst.2]
  exact decide_eq_false (by omega)
 ·obtain ⟨j',rfl⟩:∃ j',j=a+1+j':=⟨j-(a+1),by omega⟩
  obtain ⟨p1,p2⟩:=hpre j' (by omega)
  unfold plB
  rw [Bool.and_eq_true,decide_eq_true_eq,decide_eq_true_eq,p1]
  refine ⟨⟨by omega,by omega,fun h48=>?_⟩,fun q hq=>?_⟩
  ·rw [p2 0 (by omega)] at h48
   have h:=hfirst.2
   rw [Nat.add_zero] at h h48
   have:=z3 (by omega)
   omega
  ·rw [p2 q hq,(hget q (by omega)).2]
   exact z4 q (by omega)
 ·obtain ⟨p1,p2⟩:=hpre (D.size+1) (Nat.le_refl _)
  cases hb:plB (u.extract (a+1) (a+1+D.size+1)) with
  | false=>rfl
  | true =>
   exfalso
   unfold plB at hb
   rw [Bool.and_eq_true,decide_eq_true_eq,decide_eq_true_eq] at hb
   have h:=hb.2 D.size (by rw [show a+1+D.size+1=a+1+(D.size+1) by omega,p1];omega)
   rw [show a+1+D.size+1=a+1+(D.size+1) by omega,p2 _ (by omega),h93] at h
   omega
 ·unfold nmF
  rw [if_pos (by omega),hcut]
  unfold plV
  rw [if_pos k1,k2]
end Go.Proofs.YtongedjlmohogaaGreatDoor

namespace Go.Proofs.YtongedjlmohogaaGreatDoor
open Go.RowKit Go.Shelf
inductive Wrs:List Stp→List UInt8→Prop
 | nil:Wrs [] []
 | snoc {p:List Stp} {l:List UInt8} {s:Stp} {T:ByteArray} (h:Wrs p l) (hT:IsWr s T):Wrs (p++[s]) (l++T.data.toList)
theorem IsWr.len {s:Stp} {T:ByteArray} (h:IsWr s T) (hs:s.name.size≤1048576) (hp:-9223372036854775808≤s.place∧s.place≤9223372036854775807):T.size≤6291500:=by
 rcases h with ⟨-,n,-,⟨-,rfl⟩ | ⟨-,rfl⟩⟩ | ⟨-,rfl⟩ | ⟨-,rfl⟩
 ·rw [ByteArray.size_append]
  have:(⟨#[46]⟩:ByteArray).size=1:=rfl
  omega
 ·rw [ByteArray.size_append,ByteArray.size_append]
  have h1:(⟨#[91,34]⟩:ByteArray).size=2:=rfl
  have h2:(⟨#[34,93]⟩:ByteArray).size=2:=rfl
  have:=wrS22_len s.name
  omega
 ·rw [ByteArray.size_append,ByteArray.size_append]
  have h1:(⟨#[91]⟩:ByteArray).size=1:=rfl
  have h2:(⟨#[93]⟩:ByteArray).size=1:=rfl
  have:=Lib.itoa_length_le s.place hp.1 hp.2
  have h3:(⟨(Lib.itoa s.place).toArray⟩:ByteArray).size≤21:=by show (Lib.itoa s.place).toArray.size≤21;simpa using this
  omega
 ·decide
set_option maxRecDepth 10000 in
set_option maxHeartbeats 8000000 in
theorem print22_no (ss:List Stp) (ao:Option Addr) (N cap:Nat) (hN:Hid (ss.length=N)) (hNi:N≤1048576) (hf:ss.all fmS=false) (w:World) (hk:Hid (StepsAt w ao ss)) (hT:Hid (TabU w)) :
  Calls Tryz.prog 13 #[.slice ao N cap] w fun e w'=>e = .returned (.tuple #[.string ⟨#[]⟩,.int .i64 1])∧Below w.heap.size w w':=by
 have hF:=hid (formedL_calls ss ao N cap hN (by omega) w hk hT)
 rw [hf] at hF
 clear hf
 go_enter Tryz.func13,Tryz.ntmps13
 go_wp2_with fail
 refine Calls.mono hF.out ?_
 rintro e w1 ⟨rfl,b1⟩
 have B1:=hid b1
 clear b1 hF
 go_wp2_with fail
 go_ret2
 exact ⟨rfl,B1.out⟩
set_option maxRecDepth 10000 in
set_option maxHeartbeats 8000000 in
theorem print22_calls (ss:List Stp) (ao:Option Addr) (N cap:Nat) (hN:Hid (ss.length=N)) (hNi:N≤1048576) (hf:ss.all fmS=true) (hnm:Hid (∀ s ∈ ss,s.name.size≤1048576∧(-9223372036854775808≤s.place∧s.place≤9223372036854775807))) (w:World) (hk:Hid (StepsAt w ao ss)) (hT:Hid (TabU w)) (hPw:Hid (PowT w)) :
  Calls Tryz.prog 13 #[.slice ao N cap] w fun e w'=>(∃ l,e = .returned (.tuple #[.string ⟨(36 :: l).toArray⟩,.int .i64 0])∧Wrs ss l)∧Below w.heap.size w w':=by
 have hNi':(N:Int)≤1048576:=by omega
 have hF:=hid (formedL_calls ss ao N cap hN (by omega) w hk hT)
 rw [hf] at hF
 clear hf
 go_enter Tryz.func13,Tryz.ntmps13
 go_wp2_with fail
 refine Calls.mono hF.out ?_
 rintro e w1 ⟨rfl,b1⟩
 obtain ⟨m,hm⟩:∃ m,Hid (w1.heap.size=m):=⟨_,hid rfl⟩
 have A0:=hid (At.new w1 #[.pointer none,.slice none 0 0] 65)
 have B0:=hid (b1.alloc b1.size (.cells #[.pointer none,.slice none 0 0] 65))
 have hml:Hid (w.heap.size≤m):=hid (by rw [← hm.out];exact b1.size)
 clear b1 hF
 go_wp2_with fail
 rw [hm.out] at A0 ⊢
 have D0:Hid (BdI (w1.alloc (.cells #[.pointer none,.slice none 0 0] 65)) m (m+1) []):=hid ⟨_,_,A0,.inl rfl,by simpa [Lib.byteCells] using World.ownsRow_nil _ (m+1) 5 1⟩
 have z0:Hid (m+1≤(w1.alloc (.cells #[.pointer none,.slice none 0 0] 65)).heap.size):=hid (by rw [World.size_alloc,hm.out];exact Nat.le_refl _)
 clear A0 hm
 generalize w1.alloc (.cells #[.pointer none,.slice none 0 0] 65)=W0 at B0 D0 z0 ⊢
 refine Calls.mono (bbyte_calls m (m+1) [] 36 36 rfl (Nat.lt_succ_self _) (by decide) _ D0.out z0.out) ?_
 rintro e w2 ⟨rfl,d2,b2⟩
 have D2:=hid (show BdI w2 m (m+1) (36 :: []) from d2)
 have B2:=hid (B0.out.trans (b2.mono hml.out))
 have z2:Hid (m+1≤w2.heap.size):=hid (Nat.le_trans z0.out b2.size)
 clear d2 b2 B0 D0 z0
 go_wp2
 go_loopw [13] (fun ii wr=>∃ (i:Nat) (l:List UInt8),i≤N∧ii = .int .i64 (i:Int)∧Hid (Wrs (ss.take i) l)∧Hid (l.length≤i*6291500)∧Hid (BdI wr m (m+1) (36 :: l))∧Hid (m+1≤wr.heap.size)∧Hid (Below w.heap.size w wr)) (fun ii _=>N-(intOf ii).toNat)
 case atStart=>exact ⟨0,[],Nat.zero_le _,rfl,hid (by rw [List.take_zero];exact .nil),hid (by simp),D2,z2,B2⟩
 case round =>
  obtain ⟨i,l,hi,rfl,hW,hL,hD,hz,hb⟩:=hrel
  clear D2 z2 B2
  by_cases hlt:i<N
  ·have hli:(i:Int)<(N:Int):=by omega
   obtain ⟨s,hs⟩:∃ s,Hid (ss[i]? = some s):=⟨_,List.getElem?_eq_getElem (by rw [hN.out];exact hlt)⟩
   have hk2:=hk.out.kept hb.out
   obtain ⟨g,o,rfl,hg,hrg⟩:=steps_at hk2 hs.out
   have htk:=hid (show ss.take (i+1)=ss.take i++[s] by rw [List.take_add_one,hs.out];simp)
   obtain ⟨hn1,hn2⟩:=hnm.out s (List.mem_of_getElem? hs.out)
   have hof:=hid (fun u=>of22_calls s u)
   have hwr:=hid (fun u h=>written22_calls s (by omega) hn2 u h)
   have hlen:=hid (fun T (h:IsWr s T)=>h.len hn1 hn2)
   have hlt':=hid (show i+1≤N by omega)
   have hll:=hid (show l.length≤6600000000000 by have:=hL.out;omega)
   obtain ⟨k,nm,pl⟩:=s
   have hrg':=hid hrg
   have A1:=hid (At.new wr #[.int .i64 k,.string nm,.int .i64 pl] 34)
   have B1:=hid (show Below w.heap.size w (wr.alloc (.cells #[.int .i64 k,.string nm,.int .i64 pl] 34)) from hb.out.alloc hb.out.size _)
   have D1:=hid (hD.out.kept ((Below.refl _ wr).alloc (Nat.le_refl _) (.cells #[.int .i64 k,.string nm,.int .i64 pl] 34)))
   have z1':Hid (m+1≤(wr.alloc (.cells #[.int .i64 k,.string nm,.int .i64 pl] 34)).heap.size):=hid (by rw [World.size_alloc];have:=hz.out;omega)
   have z1:(Tryz.prog.info? 34).map (·.size)=some ([.int .i64 k,.string nm,.int .i64 pl]:List Value).length:=sizeStp
   obtain ⟨q,hq⟩:∃ q,wr.heap.size=q:=⟨_,rfl⟩
   rw [hq] at A1
   obtain ⟨W1,hW1⟩:∃ W,wr.alloc (.cells #[.int .i64 k,.string nm,.int .i64 pl] 34)=W:=⟨_,rfl⟩
   rw [hW1] at A1 B1 D1 z1'
   have c0:=A1.out.cell 0
   have c1:=A1.out.cell 1
   have c2:=A1.out.cell 2
   simp only [List.getElem?_toArray,List.getElem?_cons_zero,List.getElem?_cons_succ] at c0 c1 c2
   dsimp only at hof
   clear hs hk2 hg hrg hb hD hz hn1 hn2
   go_wp2_with (first | refine wpList_load_want 34 _ g (o+i*3) [.int .i64 k,.string nm,.int .i64 pl] _ hrg'.out Tryz.underlying34 z1 rfl rfl rfl (by rfl) ?_ | fail)
   refine Calls.mono (hof.out _) ?_
   rintro e w3 ⟨rfl,b3⟩
   have B3:=hid (B1.out.trans (b3.mono B1.out.size))
   have D3:=hid (D1.out.kept b3)
   have z3:Hid (m+1≤w3.heap.size):=hid (Nat.le_trans z1'.out b3.size)
   clear b3 hof A1 B1 D1 z1' c0 c1 c2 hW1
   generalize hX:ifV ⟨k,nm,pl⟩=X at hwr ⊢
   clear hX
   go_wp2_with fail
   refine Calls.mono (hwr.out _ (hid (hPw.out.kept B3.out))) ?_
   rintro e w4 ⟨⟨T,rfl,hTw⟩,b4⟩
   have hTl:=hid (hlen.out T hTw)
   have hTw':=hid hTw
   have B4:=hid (B3.out.trans (b4.mono B3.out.size))
   have D4:=hid (D3.out.kept b4)
   have z4:Hid (m+1≤w4.heap.size):=hid (Nat.le_trans z3.out b4.size)
   clear b4 hwr B3 D3 z3 hlen hTw
   go_wp2_with fail
   refine Calls.mono (bstr_calls m (m+1) (36 :: l) T (Nat.lt_succ_self _) (by have:=hll.out;have:=hTl.out;rw [List.length_cons];omega) _ D4.out z4.out) ?_
   rintro e w5 ⟨rfl,d5,b5⟩
   have D5:=hid (show BdI w5 m (m+1) (36 :: (l++T.data.toList)) from d5)
   have B5:=hid (B4.out.trans (b5.mono hml.out))
   have z5:Hid (m+1≤w5.heap.size):=hid (Nat.le_trans z4.out b5.size)
   clear d5 b5 B4 D4 z4
   have hln:Hid ((l++T.data.toList).length≤(i+1)*6291500):=hid (by
    have h1:=hL.out
    have h2:=hTl.out
    have h3:T.data.toList.length=T.size:=by rw [Array.length_toList];rfl
    rw [List.length_append,h3]
    omega)
   go_wp2
   go_roundw
   case rel=>exact ⟨i+1,l++T.data.toList,hlt'.out,by simp,hid (by rw [htk.out];exact .snoc hW.out hTw'.out),hln,D5,z5,B5⟩
   case measure=>simp [intOf];have:=hlt'.out;omega
  ·obtain rfl:i=N:=by omega
   have hfin:=hid (show Wrs ss l by have:=hW.out;rwa [List.take_of_length_le (by rw [hN.out];exact Nat.le_refl _)] at this)
   go_wp2_with fail
   refine Calls.mono (bstring_calls m (m+1) w.heap.size (36 :: l) _ hD.out (by have:=hml.out;omega) hz.out) ?_
   rintro e w6 ⟨rfl,b6,-⟩
   have B6:=hid (hb.out.trans b6)
   clear b6
   go_wp2_with fail
   go_ret2
   exact ⟨⟨l,rfl,hfin.out⟩,B6.out⟩
end Go.Proofs.YtongedjlmohogaaGreatDoor

namespace Go.Proofs.YtongedjlmohogaaGreatDoor
open Go.RowKit Go.Shelf
theorem QE.uniq22 {s:ByteArray} {p e:Nat} (h:QE s p e):∀ {e':Nat},QE s p e'→e=e':=by
 induction h with
 | stop p h hq =>
  intro e' h'
  cases h' with
  | stop _ _=>rfl
  | esc _ _ _ hq' _=>omega
  | step _ _ _ h1 _ _=>exact absurd hq h1
 | esc p e h hq hn ih =>
  intro e' h'
  cases h' with
  | stop _ hq'=>omega
  | esc _ _ _ _ hn'=>exact ih hn'
  | step _ _ _ _ h2 _=>exact absurd hq h2
 | step p e h h1 h2 hn ih =>
  intro e' h'
  cases h' with
  | stop _ _ hq'=>exact absurd hq' h1
  | esc _ _ _ hq' _=>exact absurd hq' h2
  | step _ _ _ _ _ hn'=>exact ih hn'
theorem Txt.uniq22 {s:ByteArray} {i j j':Nat} {T T':ByteArray} (h:Txt s i j T) (h':Txt s i j' T'):T=T':=by
 obtain ⟨-,e,h1,-,h2⟩:=h
 obtain ⟨-,e',h1',-,h2'⟩:=h'
 obtain rfl:=h1.uniq22 h1'
 rw [← h2,← h2']
theorem pv_text34 {s:ByteArray} {i j:Nat} {t:Vt} (h:PV s i t j) (h34:byteAt s i=34):∃ T,Txt s i j T∧t.text=T:=by
 cases h with
 | text _ _ T h=>exact ⟨T,h,rfl⟩
 | null _ h _=>omega
 | yes _ h _=>omega
 | no _ h _=>omega
 | num _ _ _ hc _ _ _=>exact absurd h34 hc.2.2.1
 | arr _ _ _ _ _ h _ _ _ _ _ _=>omega
 | obj _ _ _ _ _ _ _ _ _ _ h _ _ _ _ _ _ _=>omega
theorem par_text34 {s:ByteArray} {t t':Vt} (h:IsPar s 1 t) (h':IsPar s 1 t') (h34:byteAt s 0=34):t.text=t'.text:=by
 have sk:∀ {i},IsSkip s 0 i→i=0:=fun {i} h=>by
  rcases Nat.eq_zero_or_pos i with e | e
  ·exact e
  ·have:=h.2.2.1 0 (Nat.le_refl _) e
   rw [h34] at this
   exact absurd this (by decide)
 rcases h with ⟨-,i,j,h1,h2⟩ | ⟨h,-⟩
 ·rcases h' with ⟨-,i',j',h1',h2'⟩ | ⟨h',-⟩
  ·obtain rfl:=sk h1
   obtain rfl:=sk h1'
   obtain ⟨T,a,b⟩:=pv_text34 h2 h34
   obtain ⟨T',a',b'⟩:=pv_text34 h2' h34
   rw [b,b',a.uniq22 a']
  ·exact absurd rfl h'
 ·exact absurd rfl h
theorem isEnd_uniq22 {s:ByteArray} {f n n' E E':Int} (h:IsEnd s f n E) (h':IsEnd s f n' E'):n=n'∧E=E':=by
 rcases h with ⟨h1,h2,h3⟩ | ⟨k,rfl,hk,h⟩ <;> rcases h' with ⟨g1,g2,g3⟩ | ⟨k',hf,hk',h'⟩
 ·exact ⟨by rw [h2,g2],by rw [h3,g3]⟩
 ·subst hf;omega
 ·omega
 ·obtain rfl:k=k':=by omega
  rcases h with ⟨i,a1,a2,a3,a4,a5,a6⟩ | ⟨a1,a2,a3⟩ <;> rcases h' with ⟨j,b1,b2,b3,b4,b5,b6⟩ | ⟨b1,b2,b3⟩
  ·rcases Nat.lt_trichotomy i j with h | h | h
   ·exact absurd ⟨a2,a3⟩ (b4 i h)
   ·subst h
    exact ⟨by rw [a5,b5],by rw [a6,b6]⟩
   ·exact absurd ⟨b2,b3⟩ (a4 j h)
  ·exact absurd ⟨a2,a3⟩ (b1 i a1)
  ·exact absurd ⟨b2,b3⟩ (a1 j b1)
  ·exact ⟨by rw [a2,b2],by rw [a3,b3]⟩
theorem QEnd.uniq {s:ByteArray} {a z z':Nat} (h:QEnd s a z) (h':QEnd s a z'):z=z':=by
 obtain ⟨n,E,h1,h⟩:=h
 obtain ⟨n',E',h1',h'⟩:=h'
 obtain ⟨rfl,rfl⟩:=isEnd_uniq22 h1 h1'
 rcases h with ⟨e,h⟩ | ⟨e,h⟩ <;> rcases h' with ⟨e',h'⟩ | ⟨e',h'⟩
 ·omega
 ·exact absurd e e'
 ·exact absurd e' e
 ·omega
theorem byteAt_sub {s:ByteArray} {a z:Nat} (h:a<z) (hz:z≤s.size):byteAt (s.extract a z) 0=lk s a:=by
 have h1:(s.extract a z).size=z-a:=by rw [ByteArray.size_extract];omega
 rw [← lk_byteAt,lk_at _ 0 (by omega),lk_at s a (by omega),ByteArray.getElem_extract]
 simp
theorem IsQt.uniq {s:ByteArray} {a e e':Nat} {o o':Option Stp} (h:IsQt s a o e) (h':IsQt s a o' e') (h34:hasB s a 34=true):o=o'∧e=e':=by
 have hl:=has_lt h34
 have h3:lk s a=34:=by
  unfold hasB at h34
  exact of_decide_eq_true (Bool.and_eq_true_iff.1 h34).2
 obtain ⟨z,hz,C,A,E,t,hc,ht,h⟩:=h
 obtain ⟨z',hz',C',A',E',t',hc',ht',h'⟩:=h'
 obtain rfl:=hz.uniq hz'
 obtain ⟨rfl,rfl,rfl⟩:=hc.uniq hc'
 have hb:=byteAt_sub (qend_gt hz hl) (qend_le hz)
 rw [h3] at hb
 rcases h with ⟨h0,rfl,rfl⟩ | ⟨h0,rfl,rfl⟩ <;> rcases h' with ⟨h0',rfl,rfl⟩ | ⟨h0',rfl,rfl⟩
 ·subst h0
  rw [par_text34 ht ht' hb]
  exact ⟨rfl,rfl⟩
 ·exact absurd h0 h0'
 ·exact absurd h0' h0
 ·exact ⟨rfl,rfl⟩
theorem IsBare.uniq {s:ByteArray} {a e e':Nat} {o o':Option Stp} (h:IsBare s a o e) (h':IsBare s a o' e'):o=o'∧e=e':=by
 rcases h with ⟨q,h⟩ | ⟨q,q2,h⟩ | ⟨q,q2,n,hn,rfl,rfl⟩ <;> rcases h' with ⟨r,h'⟩ | ⟨r,r2,h'⟩ | ⟨r,r2,n',hn',rfl,rfl⟩
 ·exact h.uniq h' q
 ·rw [q] at r;cases r
 ·rw [q] at r;cases r
 ·rw [q] at r;cases r
 ·have:=h.trans h'.symm
  exact Prod.mk.inj this
 ·rw [q2] at r2;cases r2
 ·rw [q] at r;cases r
 ·rw [q2] at r2;cases r2
 ·obtain rfl:=hn.uniq hn'
  exact ⟨rfl,rfl⟩
theorem IsBr.uniq {s:ByteArray} {a e e':Nat} {o o':Option Stp} (h:IsBr s a o e) (h':IsBr s a o' e'):o=o'∧e=e':=by
 obtain ⟨p,x,hb,h⟩:=h
 obtain ⟨p',x',hb',h'⟩:=h'
 obtain ⟨rfl,rfl⟩:=hb.uniq hb'
 rcases h with ⟨q,rfl,rfl⟩ | ⟨q,q2,rfl,rfl⟩ <;> rcases h' with ⟨r,rfl,rfl⟩ | ⟨r,r2,rfl,rfl⟩
 ·exact ⟨rfl,rfl⟩
 ·rcases q with q | q
  ·exact absurd q r2
  ·rw [q] at r;cases r
 ·rcases r with r | r
  ·exact absurd r q2
  ·rw [q] at r;cases r
 ·exact ⟨rfl,rfl⟩
theorem IsRead.uniq {s:ByteArray} {a e e':Nat} {o o':Option Stp} (h:IsRead s a o e) (h':IsRead s a o' e'):o=o'∧e=e':=by
 rcases h with ⟨q,n,hn,rfl,rfl⟩ | ⟨q,h⟩ | ⟨q,rfl,rfl⟩ <;> rcases h' with ⟨r,n',hn',rfl,rfl⟩ | ⟨r,h'⟩ | ⟨r,rfl,rfl⟩
 ·obtain rfl:=hn.uniq hn'
  exact ⟨rfl,rfl⟩
 ·omega
 ·exact absurd q r.1
 ·omega
 ·exact h.uniq h'
 ·exact absurd q r.2
 ·exact absurd r q.1
 ·exact absurd r q.2
 ·exact ⟨rfl,rfl⟩
theorem Rds.pre {s:ByteArray} {b:Nat} {q:List Stp} (h:Rds s b q):∀ {n:Nat},n<q.length→∃ a p x e,Rds s a p∧p.length=n∧a<s.size∧IsRead s a (some x) e:=by
 induction h with
 | nil=>intro n hn;simp at hn
 | snoc h ha hx ih =>
  rename_i a p x e
  intro n hn
  rw [List.length_append,List.length_singleton] at hn
  rcases Nat.lt_or_ge n p.length with h1 | h1
  ·exact ih h1
  ·exact ⟨a,p,x,e,h,by omega,ha,hx⟩
theorem Rds.same {s:ByteArray} {a:Nat} {p:List Stp} (h:Rds s a p):∀ {b:Nat} {q:List Stp},Rds s b q→p.length=q.length→a=b∧p=q:=by
 induction h with
 | nil =>
  intro b q h' hl
  cases h' with
  | nil=>exact ⟨rfl,rfl⟩
  | snoc _ _ _=>simp at hl
 | snoc h ha hx ih =>
  intro b q h' hl
  cases h' with
  | nil=>simp at hl
  | snoc h' ha' hx' =>
   obtain ⟨rfl,rfl⟩:=ih h' (by simpa using hl)
   obtain ⟨e1,rfl⟩:=hx.uniq hx'
   cases e1
   exact ⟨rfl,rfl⟩
theorem IsPp.uniq {s:ByteArray} {p p':List Stp} {E E':Int} {k k':Nat} (h:IsPp s p E k) (h':IsPp s p' E' k'):p=p'∧E=E'∧k=k':=by
 have stop:∀ {p a q k},Rds s s.size p→Rds s a q→a<s.size→IsRead s a none k→False:=fun {p a q k} hp hq ha hr=>by
  rcases Nat.lt_trichotomy p.length q.length with l | l | l
  ·obtain ⟨b,r,x,e,h1,h2,h3,-⟩:=hq.pre l
   obtain ⟨e1,-⟩:=hp.same h1 h2.symm
   omega
  ·obtain ⟨e1,-⟩:=hp.same hq l
   omega
  ·obtain ⟨b,r,x,e,h1,h2,h3,h4⟩:=hp.pre l
   obtain ⟨rfl,-⟩:=hq.same h1 h2.symm
   obtain ⟨e1,-⟩:=hr.uniq h4
   cases e1
 rcases h with ⟨q,rfl,rfl,rfl⟩ | ⟨q,⟨h,rfl,rfl⟩ | ⟨a,l,h,ha,hr,rfl,rfl⟩⟩ <;> rcases h' with ⟨r,rfl,rfl,rfl⟩ | ⟨r,⟨h',rfl,rfl⟩ | ⟨a',l',h',ha',hr',rfl,rfl⟩⟩
 ·exact ⟨rfl,rfl,rfl⟩
 ·exact absurd r q
 ·exact absurd r q
 ·exact absurd q r
 ·rcases Nat.lt_trichotomy p.length p'.length with l | l | l
  ·obtain ⟨b,x,y,e,h1,h2,h3,-⟩:=h'.pre l
   obtain ⟨e1,-⟩:=h.same h1 h2.symm
   omega
  ·exact ⟨(h.same h' l).2,rfl,rfl⟩
  ·obtain ⟨b,x,y,e,h1,h2,h3,-⟩:=h.pre l
   obtain ⟨e1,-⟩:=h'.same h1 h2.symm
   omega
 ·exact (stop h h' ha' hr').elim
 ·exact absurd q r
 ·exact (stop h' h ha hr).elim
 ·have hl:l.length=l'.length:=by
   rcases Nat.lt_trichotomy l.length l'.length with c | c | c
   ·obtain ⟨b,x,y,e,h1,h2,h3,h4⟩:=h'.pre c
    obtain ⟨rfl,-⟩:=h.same h1 h2.symm
    obtain ⟨e1,-⟩:=hr.uniq h4
    cases e1
   ·exact c
   ·obtain ⟨b,x,y,e,h1,h2,h3,h4⟩:=h.pre c
    obtain ⟨rfl,-⟩:=h'.same h1 h2.symm
    obtain ⟨e1,-⟩:=hr'.uniq h4
    cases e1
  obtain ⟨rfl,-⟩:=h.same h' hl
  exact ⟨rfl,rfl,(hr.uniq hr').2⟩
end Go.Proofs.YtongedjlmohogaaGreatDoor
