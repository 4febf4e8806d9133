import Derived.Test.YtjcpamjeekfblaaGreatDoorPack19
import Derived.Test.YtjcpamjeekfblaaGreatDoorPack2
import Derived.Lib.CountLaws
import Derived.Lib.Replace
namespace Go.Proofs.YtjcpamjeekfblaaGreatDoor
open Go.RowKit Go.Shelf
theorem rep_one (c:UInt8) (new:List UInt8):∀ (n:Nat) (s:List UInt8),s.length≤n→Lib.replaceK [c] new (Lib.count s [c]) s=s.flatMap (fun x=>if x=c then new else [x]):=by
 have none_map:∀ a:List UInt8,(∀ x ∈ a,x≠c)→a.flatMap (fun x=>if x=c then new else [x])=a:=by
  intro a
  induction a with
  | nil=>intro _;rfl
  | cons b a ih =>
   intro h
   rw [List.flatMap_cons,if_neg (h b (by simp)),ih (fun x hx=>h x (by simp [hx]))]
   rfl
 have first:∀ l:List UInt8,(∀ x ∈ l,x≠c)∨∃ a r,l=a++c :: r∧∀ x ∈ a,x≠c:=by
  intro l
  induction l with
  | nil=>exact .inl (fun x h=>by simp at h)
  | cons b l ih =>
   by_cases hb:b=c
   ·exact .inr ⟨[],l,by simp [hb],fun x h=>by simp at h⟩
   ·rcases ih with h | ⟨a,r,rfl,h⟩
    ·exact .inl (fun x hx=>by
      simp at hx
      rcases hx with rfl | hx
      ·exact hb
      ·exact h x hx)
    ·exact .inr ⟨b :: a,r,rfl,fun x hx=>by
      simp at hx
      rcases hx with rfl | hx
      ·exact hb
      ·exact h x hx⟩
 intro n
 induction n with
 | zero =>
  intro s hs
  obtain rfl:s=[]:=List.length_eq_zero_iff.1 (by omega)
  rw [Lib.count_miss (by rfl)]
  rfl
 | succ n ih =>
  intro s hs
  rcases first s with h | ⟨a,r,rfl,h⟩
  ·rw [Lib.count_miss (by rw [Lib.index_one];exact idx_no s c h),none_map s h]
   rfl
  ·have hi:Lib.index (a++c :: r) [c]=(a.length:Int):=by rw [Lib.index_one];exact idx_yes a c r h
   have hd:(a++c :: r).drop (a.length+[c].length)=r:=by simp
   rw [Lib.count_hit (by simp) hi,hd,Nat.add_comm,Lib.replaceK_hit _ _ _ _ _ hi,hd,ih r (by simp at hs;omega)]
   rw [List.flatMap_append,none_map a h,List.flatMap_cons,if_pos rfl]
   simp
theorem repAll_one (c:UInt8) (new:List UInt8) (hne:([c] == new)=false) (s:List UInt8):Lib.replaceAll s [c] new=s.flatMap (fun x=>if x=c then new else [x]):=by
 unfold Lib.replaceAll Lib.replace
 rw [if_neg (by rw [hne];exact Bool.false_ne_true)]
 have:Lib.replaceNum s [c] (-1)=Lib.count s [c]:=by unfold Lib.replaceNum;rw [if_pos (.inl (by decide))]
 rw [this]
 exact rep_one c new _ s (Nat.le_refl _)
theorem wrN_two:∀ l:List UInt8,(l.flatMap (fun x=>if x=126 then [126,48] else [x])).flatMap (fun x=>if x=47 then [126,49] else [x])=wrN l
 | []=>rfl
 | c :: t=>by
  rw [List.flatMap_cons,List.flatMap_append,wrN_two t,wrN]
  by_cases h:c=126
  ·subst h
   rw [if_pos rfl,if_pos rfl]
   rfl
  ·rw [if_neg h,if_neg h]
   by_cases h2:c=47
   ·subst h2
    rw [if_pos rfl]
    rfl
   ·rw [if_neg h2,List.flatMap_cons,if_neg h2]
    rfl
theorem flat_len (f:UInt8→List UInt8) (k:Nat) (hf:∀ x,(f x).length≤k):∀ l:List UInt8,(l.flatMap f).length≤k*l.length
 | []=>by simp
 | c :: t=>by
  rw [List.flatMap_cons,List.length_append,List.length_cons]
  have h1:=flat_len f k hf t
  have h2:=hf c
  rw [Nat.mul_add,Nat.mul_one]
  omega
def MxI (w:World):Prop:=∃ m,w.cell? ⟨Tryz.laysM155_ren.g 1,0,none⟩=some (.int .i64 m)
theorem MxI.kept {w w':World} (h:MxI w) (hb:Below w.heap.size w w'):MxI w':=by
 obtain ⟨m,hm⟩:=h
 exact ⟨m,(hb.cell (p:=⟨Tryz.laysM155_ren.g 1,0,none⟩) (cell_ltT hm)).trans hm⟩
theorem MxI.below {n:Nat} {w w':World} (h:MxI w) (hb:Below n w w') (hn:∀ m,w.cell? ⟨Tryz.laysM155_ren.g 1,0,none⟩=some (.int .i64 m)→Tryz.laysM155_ren.g 1<n):MxI w':=by
 obtain ⟨m,hm⟩:=h
 exact ⟨m,(hb.cell (p:=⟨Tryz.laysM155_ren.g 1,0,none⟩) (hn m hm)).trans hm⟩
theorem MxI.of_shape {w:World} (h:w.ShapedOpen Tryz.prog):MxI w:=Tryz.laysM155.s1_3 w h
theorem repl_calls (l:List UInt8) (c:UInt8) (d:UInt8) (x:UInt8) (hl:l.length≤4294967280) (w:World) (hm:MxI w) (hne:([c] == [d,x])=false):Calls Tryz.prog 112 #[.string (mkL l),.string ⟨#[c]⟩,.string ⟨#[d,x]⟩] w fun e w'=>e = .returned (.string (mkL (l.flatMap (fun y=>if y=c then [d,x] else [y]))))∧Below w.heap.size w w':=by
 obtain ⟨m,hm⟩:=hm
 have hc:=Lib.count_le l [c]
 have h:=Any.strings_ReplaceAll Tryz.lays155 Tryz.Builder_Extra_155 (mkL l) ⟨#[c]⟩ ⟨#[d,x]⟩ m w (by rw [mkL_size];omega) hm (by show 1≤1;decide) (by
  rw [mkL_size]
  have:Lib.countB (mkL l) ⟨#[c]⟩=Lib.count l [c]:=by show Lib.count (mkL l).data.toList _=_;rw [data_mkL]
  rw [this]
  show l.length+Lib.count l [c]*2≤_
  omega)
 refine h.mono ?_
 rintro e w' ⟨rfl,hb⟩
 refine ⟨?_,hb⟩
 rw [data_mkL]
 have:=repAll_one c [d,x] hne l
 show Ending.returned (.string ⟨(Lib.replaceAll l [c] [d,x]).toArray⟩)=_
 rw [this]
 rfl
set_option maxRecDepth 10000 in
theorem written_calls20 (l:List UInt8) (hl:l.length≤2147483640) (w:World) (hm:MxI w):Calls Tryz.prog 94 #[.string (mkL l)] w fun e w'=>e = .returned (.string (mkL (wrN l)))∧Below w.heap.size w w':=by
 have hl2:=flat_len (fun y=>if y=126 then [126,48] else [y]) 2 (fun x=>by show (if x=126 then [126,48] else [x]).length≤2;split <;> simp) l
 have c1:=hid (repl_calls l 126 126 48 (by omega) w hm (by decide))
 have c2:=hid (fun (u:World) (hu:MxI u)=>repl_calls (l.flatMap (fun y=>if y=126 then [126,48] else [y])) 47 126 49 (by omega) u hu (by decide))
 rw [wrN_two] at c2
 generalize l.flatMap (fun y=>if y=126 then [126,48] else [y])=l2 at c1 c2
 generalize mkL l2=s2 at c1 c2
 generalize mkL l=s1 at c1 ⊢
 have hm':=hid hm
 clear hl hl2 hm
 go_enter Tryz.func94,Tryz.ntmps94
 go_wp2_with fail
 refine Calls.mono c1.out ?_
 rintro e w1 ⟨rfl,b1⟩
 have M1:=hid (hm'.out.kept b1)
 have B1:=hid b1
 clear b1 c1
 go_wp2_with fail
 refine Calls.mono (c2.out _ M1.out) ?_
 rintro e w2 ⟨rfl,b2⟩
 have B2:=hid (B1.out.trans (b2.mono B1.out.size))
 clear b2 c2
 go_wp2
 go_ret
 exact ⟨rfl,B2.out⟩
theorem wrL_take {L:List (List UInt8)} {i:Nat} {a:List UInt8} (h:L[i]? = some a):wrL (L.take (i+1))=wrL (L.take i)++[47]++wrN a:=by
 rw [List.take_add_one,h,wrL_app]
 simp [wrL]
theorem wrL_part (L:List (List UInt8)) (i:Nat):(wrL (L.take i)).length≤(wrL L).length:=by
 conv=>rhs;rw [← List.take_append_drop i L,wrL_app,List.length_append]
 omega
set_option maxRecDepth 10000 in
set_option maxHeartbeats 4000000 in
theorem print_calls (L:List (List UInt8)) (ao:Option Addr) (N cap:Nat) (hN:Hid (L.length=N)) (hn:N≤4294967296) (he:Hid (∀ a ∈ L,a.length≤2147483640)) (hw:Hid ((wrL L).length≤140737488355328)) (w:World) (hk:Hid (KeysAt w ao (L.map mkL))) (hm:Hid (MxI w)) :
  Calls Tryz.prog 75 #[.slice ao N cap] w fun e w'=>e = .returned (.string (mkL (wrL L)))∧Below w.heap.size w w':=by
 obtain ⟨m,hmm⟩:∃ m,Hid (w.heap.size=m):=⟨_,rfl⟩
 have hNi:(N:Int)≤4294967296:=by omega
 have D0:=hid (BdI.fresh0 w)
 have al:=hid (show Below w.heap.size w (w.alloc (.cells #[.pointer none,.slice none 0 0] 65)) from (Below.refl _ _).alloc (Nat.le_refl _) _)
 have sz0:=hid (show (w.alloc (.cells #[.pointer none,.slice none 0 0] 65)).heap.size=m+1 by rw [World.size_alloc,hmm.out])
 rw [hmm.out] at D0 al
 go_enter Tryz.func75,Tryz.ntmps75
 go_wp2
 rw [hmm.out]
 go_loopw [8] (fun ii wr=>∃ i:Nat,i≤N∧ii = .int .i64 (i:Int)∧Hid (BdI wr m (m+1) (wrL (L.take i)))∧Hid (Below m w wr)∧Hid (m+1≤wr.heap.size)) (fun ii _=>N-(intOf ii).toNat)
 case atStart=>exact ⟨0,Nat.zero_le _,rfl,D0,al,hid (Nat.le_of_eq sz0.out.symm)⟩
 case round =>
  clear D0 al sz0
  obtain ⟨i,hi,rfl,hD,hB,hz⟩:=hrel
  by_cases hlt:i<N
  ·have hii:(i:Int)<(N:Int):=by omega
   obtain ⟨a,ha⟩:∃ a,L[i]? = some a:=⟨_,List.getElem?_eq_getElem (by rw [hN.out];exact hlt)⟩
   obtain ⟨-,g,o,rfl,hg,cg⟩:=hk.out i (mkL a) (by rw [List.getElem?_map,ha];rfl)
   have hB0:Below w.heap.size w wr:=by rw [hmm.out];exact hB.out
   have s1:=(hB0.cell (p:=⟨g,o+i,none⟩) hg).trans cg
   have M1:=hid (hm.out.kept hB0)
   have hal:=he.out a (List.mem_of_getElem? ha)
   have hw1:=hid (wrL_take ha)
   have hw2:=hid (Nat.le_trans (wrL_part L (i+1)) hw.out)
   have cw:=hid (fun (u:World) (hu:MxI u)=>written_calls20 a hal u hu)
   have hsz:=hid (show (mkL (wrN a)).size+(wrL (L.take i)).length+1≤140737488355328 by have:=hw2.out;rw [hw1.out] at this;simp at this;rw [mkL_size];omega)
   have hdt:=hid (data_mkL (wrN a))
   rw [hw1.out] at hw2
   generalize mkL a=az at s1 cw
   generalize mkL (wrN a)=bz at cw hsz hdt
   generalize wrN a=wa at hw1 hw2 hdt
   clear ha cg hg hB0 hal
   go_wp2_with fail
   refine Calls.mono (bbyte_calls m (m+1) _ 47 47 rfl (Nat.lt_succ_self _) (by have:=hsz.out;omega) _ hD.out hz.out) ?_
   rintro e w1 ⟨rfl,d1,b1⟩
   have D1:=hid d1
   have B1:=hid (hB.out.trans b1)
   have z1:=hid (Nat.le_trans hz.out b1.size)
   have M2:=hid (M1.out.below b1 (fun q hq=>by
    obtain ⟨q',hq'⟩:=hm.out
    have:=cell_ltT hq'
    rw [hmm.out] at this
    exact this))
   clear d1 b1 hD hB hz M1 s1
   go_wp2_with fail
   refine Calls.mono (cw.out _ M2.out) ?_
   rintro e w2 ⟨rfl,b2⟩
   have D2:=hid (D1.out.kept b2)
   have B2:=hid (B1.out.trans (b2.mono (by have:=z1.out;omega)))
   have z2:=hid (Nat.le_trans z1.out b2.size)
   clear b2 D1 B1 z1 cw
   go_wp2_with fail
   refine Calls.mono (bstr_calls m (m+1) _ bz (Nat.lt_succ_self _) (by have:=hsz.out;simp;omega) _ D2.out z2.out) ?_
   rintro e w3 ⟨rfl,d3,b3⟩
   rw [hdt.out,← hw1.out] at d3
   have D3:=hid d3
   have B3:=hid (B2.out.trans b3)
   have z3:=hid (Nat.le_trans z2.out b3.size)
   clear d3 b3 D2 B2 z2
   go_wp2
   go_roundw
   case rel=>exact ⟨i+1,by omega,by simp,D3,B3,z3⟩
   case measure=>simp [intOf];omega
  ·obtain rfl:i=N:=by omega
   have hL:L.take i=L:=List.take_of_length_le (by rw [hN.out];exact Nat.le_refl _)
   rw [hL] at hD
   go_wp2_with fail
   refine Calls.mono (bstring_calls m (m+1) m _ _ hD.out (Nat.le_succ _) hz.out) ?_
   rintro e w3 ⟨rfl,b3,-⟩
   have B3:=hid (hB.out.trans b3)
   clear b3
   go_wp2
   go_ret
   exact ⟨rfl,by rw [hmm.out];exact B3.out⟩
end Go.Proofs.YtjcpamjeekfblaaGreatDoor
