/-
  Texts of mine that others lean on, one behind the other.
-/
import Derived.Test.YtongedjlmohogaaGreatDoorPack7
import Derived.Test.YtongedjlmohogaaGreatDoorPack8
import Derived.Deep.DeepCutAuto
import Derived.Deep.RegionHeld
import Derived.BigQuiet
import Derived.Test.YtongedjlmohogaaGreatDoorPack1
import Derived.Deep.MidRow
import Derived.OwnWalk
import Derived.Test.YtongedjlmohogaaGreatDoorPack6
import Derived.Test.YtongedjlmohogaaGreatDoorPack4
import Derived.Lib.Builder
import Derived.Lib.AppendStr
import Derived.Lib.UnsafeStr
import Derived.Laws.Externs
import Derived.Shelf.RegionOpenPlain
namespace Go.Proofs.YtongedjlmohogaaGreatDoor
open Go.RowKit Go.Shelf
theorem ret_val1 {fn:Func} {p:Tmp} {R:Ending→World→Prop} {a:Act} {w:World} {b:Nat} {x0 x1 x2 x3 x4 x5:Value} (hres:fn.results = #[.cell p 59]) (hp:a.tmps.getD p undef = .pointer (some ⟨b,0,none⟩))
  (h:At w b #[x0,x1,x2,x3,x4,x5] 59) (hd:a.defers=[]) (hR:R (.returned (.agg #[x0,x1,x2,x3,x4,x5])) w):bodyPost Tryz.prog fn R .ret a w :=
 bodyPost_ret (v:=.agg #[x0,x1,x2,x3,x4,x5]) (results_cell_row (P:=Tryz.prog) hres _ w b 59 #[x0,x1,x2,x3,x4,x5] (0,0) _ hp h Tryz.underlying59 rfl sizeVl) hd hR
theorem valLeaf (w:World) (k:Int) (b:Bool) (r t:ByteArray) (hw:(Lit.int .i64 k).wf=true) (hr:r.size≤capT) (ht:t.size≤capT):ValAt w (.mk k b r t [] []) (.agg #[.int .i64 k,.bool b,.string r,.string t,.slice none 0 0,.slice none 0 0]) :=
 .mk k b r t [] [] none 0 none 0 (fun _=>#[]) hw ⟨hr,ht,Nat.zero_le _,Nat.zero_le _⟩ (fun i s h=>by simp at h) (fun i h=>by simp at h) (fun i u h=>by simp at h)
theorem row2 {w:World} {b:Nat} {ty:TypeId} {c0 c1 c2 c3 c4 c5 d0 d1 d2 d3 d4 d5:Value} (h:At w b #[c0,c1,c2,c3,c4,c5,d0,d1,d2,d3,d4,d5] ty):RowAt w (some ⟨b,0,none⟩) 2 (fun i=>if i=0 then #[c0,c1,c2,c3,c4,c5] else #[d0,d1,d2,d3,d4,d5]):=by
 intro i hi
 have hi2:i=0∨i=1:=by omega
 rcases hi2 with rfl | rfl
 ·refine ⟨rfl,b,0,rfl,h.lt,fun j hj=>?_⟩
  match j,hj with
  | 0,_=>exact h.cell 0
  | 1,_=>exact h.cell 1
  | 2,_=>exact h.cell 2
  | 3,_=>exact h.cell 3
  | 4,_=>exact h.cell 4
  | 5,_=>exact h.cell 5
 ·refine ⟨rfl,b,0,rfl,h.lt,fun j hj=>?_⟩
  match j,hj with
  | 0,_=>exact h.cell 6
  | 1,_=>exact h.cell 7
  | 2,_=>exact h.cell 8
  | 3,_=>exact h.cell 9
  | 4,_=>exact h.cell 10
  | 5,_=>exact h.cell 11
theorem At.newAt {w:World} {b:Nat} (cs:Array Value) (ty:TypeId) (h:b=w.heap.size):At (w.alloc (.cells cs ty)) b cs ty:=by
 subst h
 exact At.new _ _ _
end Go.Proofs.YtongedjlmohogaaGreatDoor

namespace Go.Proofs.YtongedjlmohogaaGreatDoor
open Go.RowKit Go.Shelf
def takesC (b:Nat):Array Value:=#[.nilFunc,.func (.func 138) #[.pointer (some ⟨b,0,none⟩)] #[],.func (.func 139) #[.pointer (some ⟨b,0,none⟩)] #[],.func (.func 140) #[.pointer (some ⟨b,0,none⟩)] #[],.func (.func 141) #[.pointer (some ⟨b,0,none⟩)] #[],.func (.func 142) #[.pointer (some ⟨b,0,none⟩)] #[],.func (.func 143) #[.pointer (some ⟨b,0,none⟩)] #[]]
structure PaI (b g:Nat) (s:ByteArray) (i:Nat) (w:World):Prop where
 at_:At w b #[.string s,.int .i64 (i:Int),.slice (some ⟨g,0,none⟩) 7 7] 167
 tk:At w g (takesC b) 60
 ne:g≠b
structure PFr (b:Nat) (w w':World):Prop where
 os:w'.os=w.os
 tape:w'.tape=w.tape
 output:w'.output=w.output
 size:w.heap.size≤w'.heap.size
 block:∀ k,k<w.heap.size→k≠b→w'.heap[k]? = w.heap[k]?
theorem PFr.refl (b:Nat) (w:World):PFr b w w:=⟨rfl,rfl,rfl,Nat.le_refl _,fun _ _ _=>rfl⟩
theorem PFr.trans {b:Nat} {x y z:World} (h:PFr b x y) (k:PFr b y z):PFr b x z :=
 ⟨k.os.trans h.os,k.tape.trans h.tape,k.output.trans h.output,Nat.le_trans h.size k.size,fun i hi hb=>(k.block i (Nat.lt_of_lt_of_le hi h.size) hb).trans (h.block i hi hb)⟩
theorem PFr.of_below {b:Nat} {w w':World} (h:Below w.heap.size w w'):PFr b w w':=⟨h.os,h.tape,h.output,h.size,fun k hk _=>h.block k hk⟩
theorem PFr.set {b:Nat} {w w':World} (h:PFr b w w') (k:Nat) (v:Value):PFr b w (w'.setCell ⟨b,k,none⟩ v) :=
 ⟨h.os,h.tape,h.output,by simpa using h.size,fun i hi hb=>(Below.heap_setCell w' ⟨b,k,none⟩ v i hb).trans (h.block i hi hb)⟩
theorem PFr.at_ {b c:Nat} {w w':World} {cs:Array Value} {t:TypeId} (h:PFr b w w') (ha:At w c cs t) (hc:c≠b):At w' c cs t:=(h.block c ha.lt hc).trans ha
theorem PaI.kept {b g i:Nat} {s:ByteArray} {w w':World} (h:PaI b g s i w) (hb:Below w.heap.size w w'):PaI b g s i w':=⟨h.at_.keptAll hb,h.tk.keptAll hb,h.ne⟩
theorem PaI.go {b g i:Nat} {s:ByteArray} {w:World} (h:PaI b g s i w) (j:Int) (k:Nat) (hj:j=(k:Int)):PaI b g s k (w.setCell ⟨b,1,none⟩ (.int .i64 j)):=by
 subst hj
 exact ⟨by simpa using h.at_.set 1 (.int .i64 (k:Int)),h.tk.other (p:=⟨b,1,none⟩) h.ne _,h.ne⟩
theorem PaI.drew {b g i:Nat} {s:ByteArray} {w:World} (h:PaI b g s i w) (n:Nat):PaI b g s i (w.drewN n):=⟨h.at_.drewN n,h.tk.drewN n,h.ne⟩
def atP (b:Nat) (w:World):Nat:=match w.cell? ⟨b,1,none⟩ with
 | some (.int _ n)=>n.toNat
 | _=>0
theorem PaI.atP {b g i:Nat} {s:ByteArray} {w:World} (h:PaI b g s i w):atP b w=i:=by
 unfold Go.Proofs.YtongedjlmohogaaGreatDoor.atP
 rw [show w.cell? ⟨b,1,none⟩=some (.int .i64 (i:Int)) from h.at_.cell 1]
 simp
def kindC (c:Nat):Int:=if c=110 then 1 else if c=116∨c=102 then 2 else if c=34 then 4 else if c=91 then 5 else if c=123 then 6 else 3
set_option maxRecDepth 10000 in
set_option maxHeartbeats 4000000 in
theorem kind17_calls (c:Nat) (w:World):Calls Tryz.prog 145 #[.int .u8 (c:Int)] w fun e w'=>e = .returned (.int .i64 (kindC c))∧w'=w:=by
 unfold kindC
 by_cases h1:c=110
 ·subst h1
  go_enter Tryz.func145,Tryz.ntmps145
  go_wp2
  go_ret
  exact ⟨rfl,rfl⟩
 have e1:((c:Int) == 110)=false:=by simp;omega
 rw [if_neg h1]
 by_cases h2:c=116
 ·subst h2
  go_enter Tryz.func145,Tryz.ntmps145
  go_wp2
  go_ret
  exact ⟨rfl,rfl⟩
 have e2:((c:Int) == 116)=false:=by simp;omega
 by_cases h3:c=102
 ·subst h3
  go_enter Tryz.func145,Tryz.ntmps145
  go_wp2
  go_ret
  exact ⟨rfl,rfl⟩
 have e3:((c:Int) == 102)=false:=by simp;omega
 rw [if_neg (by omega)]
 by_cases h4:c=34
 ·subst h4
  go_enter Tryz.func145,Tryz.ntmps145
  go_wp2
  go_ret
  exact ⟨rfl,rfl⟩
 have e4:((c:Int) == 34)=false:=by simp;omega
 rw [if_neg h4]
 by_cases h5:c=91
 ·subst h5
  go_enter Tryz.func145,Tryz.ntmps145
  go_wp2
  go_ret
  exact ⟨rfl,rfl⟩
 have e5:((c:Int) == 91)=false:=by simp;omega
 rw [if_neg h5]
 by_cases h6:c=123
 ·subst h6
  go_enter Tryz.func145,Tryz.ntmps145
  go_wp2
  go_ret
  exact ⟨rfl,rfl⟩
 have e6:((c:Int) == 123)=false:=by simp;omega
 rw [if_neg h6]
 clear h1 h2 h3 h4 h5 h6
 go_enter Tryz.func145,Tryz.ntmps145
 go_wp2
 go_ret
 exact ⟨rfl,rfl⟩
set_option maxRecDepth 10000 in
set_option maxHeartbeats 4000000 in
theorem blanksP_calls (b g:Nat) (s:ByteArray) (hs:s.size≤281474976710656) (i k:Nat) (hk:Hid (IsSkip s i k)) (hks:k<s.size) (w:World) (hP:Hid (PaI b g s i w)) :
  Calls Tryz.prog 144 #[.pointer (some ⟨b,0,none⟩)] w fun e w'=>e = .returned (.tuple #[])∧PaI b g s k w'∧PFr b w w':=by
 have hsi:(s.size:Int)≤281474976710656:=by omega
 obtain ⟨k1,k2,k3,k4⟩:=hk.out
 have k3':=hid k3
 have k4':Hid (blankN (byteAt s k)=false):=by
  rcases k4 with h | h
  ·omega
  ·exact h
 clear k3 k4 hk
 have c0:w.cell? ⟨b,0,none⟩=some (.string s):=hP.out.at_.cell 0
 have c1:w.cell? ⟨b,1,none⟩=some (.int .i64 (i:Int)):=hP.out.at_.cell 1
 have his:i<s.size:=by omega
 have hii:(i:Int)<(s.size:Int):=by omega
 obtain ⟨y0,hY0⟩:∃ y,Hid (byteAt s i=y):=⟨_,rfl⟩
 have hy0:=byteAt_eq s i his
 rw [hY0.out] at hy0
 go_enter Tryz.func144,Tryz.ntmps144
 go_wp2
 go_quiet (fail)
 go_wp2_with fail
 clear c0 c1
 go_loopw [2] (fun x wr=>∃ (q y:Nat),i≤q∧q≤k∧x = .int .u8 (y:Int)∧Hid (byteAt s q=y)∧Hid (PaI b g s q wr)∧Hid (PFr b w wr)) (fun _ wr=>k-atP b wr)
 case atStart=>exact ⟨i,y0,Nat.le_refl _,k1,rfl,hY0,hid (hP.out.drew _),hid (PFr.of_below (below_drewN (Below.refl _ _) _))⟩
 case round =>
  obtain ⟨q,y,hq1,hq2,rfl,hY,hP,hF⟩:=hrel
  have hyl:y<256:=by rw [← hY.out,← byteAt_eq s q (by omega)];exact (s[q]'(by omega)).toNat_lt
  by_cases hqe:q=k
  ·subst hqe
   have hb0:blankN y=false:=by rw [← hY.out];exact k4'.out
   have hb1:¬ (y=32∨y=9∨y=10∨y=13):=by simpa [blankN] using hb0
   have e1:((y:Int) == 32)=false:=by simp;omega
   have e2:((y:Int) == 9)=false:=by simp;omega
   have e3:((y:Int) == 10)=false:=by simp;omega
   have e4:((y:Int) == 13)=false:=by simp;omega
   clear hb0 hb1
   go_wp2
   go_end0
   exact ⟨rfl,hP.out,hF.out⟩
  ·have hb0:blankN y=true:=by rw [← hY.out];exact k3'.out q hq1 (by omega)
   have hb1:y=32∨y=9∨y=10∨y=13:=by simpa [blankN] using hb0
   have hqs:q+1<s.size:=by omega
   have hqi:(q:Int)+1<(s.size:Int):=by omega
   obtain ⟨y1,hY1⟩:∃ y,Hid (byteAt s (q+1)=y):=⟨_,rfl⟩
   have hy1:=byteAt_eq s (q+1) hqs
   rw [hY1.out] at hy1
   have c0:wr.cell? ⟨b,0,none⟩=some (.string s):=hP.out.at_.cell 0
   have c1:wr.cell? ⟨b,1,none⟩=some (.int .i64 (q:Int)):=hP.out.at_.cell 1
   have f1:=hP.out.at_.frozen 1
   have P2:=hid (hP.out.go ((q:Int)+1) (q+1) (by omega))
   have F2:=hid (hF.out.set 1 (.int .i64 ((q:Int)+1)))
   have hat:=hid (hP.out.atP)
   clear hb0 hP hF
   rcases hb1 with rfl | rfl | rfl | rfl
   all_goals
    go_upto_region 2 with fail
    generalize wr.setCell ⟨b,1,none⟩ (.int .i64 ((q:Int)+1))=w2 at P2 F2 ⊢
    have d0:w2.cell? ⟨b,0,none⟩=some (.string s):=P2.out.at_.cell 0
    have d1:w2.cell? ⟨b,1,none⟩=some (.int .i64 ((q:Int)+1)):=by have:=P2.out.at_.cell 1;push_cast at this;exact this
    go_quiet (fail)
    go_wp2
    go_roundw
    case rel=>exact ⟨q+1,y1,by omega,by omega,rfl,hY1,hid (P2.out.drew _),hid (F2.out.trans (PFr.of_below (below_drewN (Below.refl _ _) _)))⟩
    case measure=>rw [hat.out,(P2.out.drew _).atP];omega
end Go.Proofs.YtongedjlmohogaaGreatDoor

namespace Go.Proofs.YtongedjlmohogaaGreatDoor
theorem bAt_byte (s:ByteArray) (i:Nat):bAt s i=byteAt s i:=rfl
theorem slash_from (s:ByteArray) (p i:Nat):slash (s.extract p s.size) i=decide (byteAt s (p+i)=92):=by
 have h:=bAt_from s p i
 unfold slash
 have e:((s.extract p s.size).data[i]?.getD 0).toNat=byteAt s (p+i):=h
 rw [e]
theorem qe_esc {s:ByteArray} {p q e:Nat} (h:QE s q e):p≤q→escG (slash (s.extract p s.size)) false (q-p)=false →
  escG (slash (s.extract p s.size)) false (e-p)=false∧∀ j,q≤j→j<e→¬ (byteAt s j=34∧escG (slash (s.extract p s.size)) false (j-p)=false):=by
 induction h with
 | stop q hq hc=>exact fun _ h=>⟨h,fun j a b=>by omega⟩
 | esc q e hq hc hn ih =>
  intro hp h
  have s1:slash (s.extract p s.size) (q-p)=true:=by rw [slash_from,show p+(q-p)=q by omega,hc];rfl
  have e1:escG (slash (s.extract p s.size)) false (q+1-p)=true:=by
   rw [show q+1-p=(q-p)+1 by omega,escG_succ,s1,h];rfl
  have e2:escG (slash (s.extract p s.size)) false (q+2-p)=false:=by
   rw [show q+2-p=(q+1-p)+1 by omega,escG_succ,e1];simp
  obtain ⟨g1,g2⟩:=ih (by omega) e2
  refine ⟨g1,fun j a b=>?_⟩
  by_cases j0:j=q
  ·subst j0;exact fun x=>by have:=x.1;omega
  by_cases j1:j=q+1
  ·subst j1;exact fun x=>by have:=x.2;rw [e1] at this;cases this
  ·exact g2 j (by omega) b
 | step q e hq h1 h2 hn ih =>
  intro hp h
  have s1:slash (s.extract p s.size) (q-p)=false:=by rw [slash_from,show p+(q-p)=q by omega];exact decide_eq_false h2
  have e1:escG (slash (s.extract p s.size)) false (q+1-p)=false:=by
   rw [show q+1-p=(q-p)+1 by omega,escG_succ,s1];rfl
  obtain ⟨g1,g2⟩:=ih (by omega) e1
  refine ⟨g1,fun j a b=>?_⟩
  by_cases j0:j=q
  ·subst j0;exact fun x=>h1 x.1
  ·exact g2 j (by omega) b
theorem qe_quote {s:ByteArray} {q e:Nat} (h:QE s q e):byteAt s e=34:=by
 induction h with
 | stop q hq hc=>exact hc
 | esc q e hq hc hn ih=>exact ih
 | step q e hq h1 h2 hn ih=>exact ih
theorem qe_isend {s:ByteArray} {p e:Nat} (h:QE s p e) {n E:Int} (hE:IsEnd s (p:Int) n E):n=(e:Int)∧E=0:=by
 have hle:=h.le
 obtain ⟨g1,g2⟩:=qe_esc (p:=p) h (Nat.le_refl _) (by rw [Nat.sub_self];rfl)
 have h34:=qe_quote h
 rcases hE with ⟨hx,-⟩ | ⟨k,hk,hks,hh⟩
 ·omega
 ·have:k=p:=by omega
  subst this
  rcases hh with ⟨i,hi,hb,he,hno,hn,hE⟩ | ⟨hno,-⟩
  ·have hie:i=e-k:=by
    rcases Nat.lt_trichotomy i (e-k) with x | x | x
    ·exfalso
     exact g2 (k+i) (by omega) (by omega) ⟨hb,by rw [show k+i-k=i by omega];exact he⟩
    ·exact x
    ·exfalso
     exact hno (e-k) x ⟨by rw [bAt_byte,show k+(e-k)=e by omega];exact h34,g1⟩
   refine ⟨?_,hE⟩
   rw [hn,hie,show k+(e-k)=e by omega]
  ·exfalso
   exact hno (e-k) (by omega) ⟨by rw [bAt_byte,show k+(e-k)=e by omega];exact h34,g1⟩
end Go.Proofs.YtongedjlmohogaaGreatDoor

namespace Go.Proofs.YtongedjlmohogaaGreatDoor
open Go.RowKit Go.Shelf
theorem belowF {w W w1:World} (h:Below w.heap.size w W) (hb:Below W.heap.size W w1):Below w.heap.size w w1:=h.trans (hb.mono h.size)
theorem infoK0:(Tryz.prog.info? 9).map (fun i=>(i.zero,i.size,i.bytes))=some (some (.string ⟨#[]⟩),1,16):=by kernel_rfl
theorem infoK:∃ i z,Tryz.prog.info? 9=some i∧i.zero=some z∧i.size=1∧i.bytes=16:=by
 obtain ⟨i,h1,h2⟩:=Option.map_eq_some_iff.1 infoK0
 exact ⟨i,_,h1,congrArg (·.1) h2,congrArg (·.2.1) h2,congrArg (·.2.2) h2⟩
theorem infoV0:(Tryz.prog.info? 59).map (fun i=>(i.zero,i.size,i.bytes))=some (some (.agg #[.int .i64 0,.bool false,.string ⟨#[]⟩,.string ⟨#[]⟩,.slice none 0 0,.slice none 0 0]),6,96):=by kernel_rfl
theorem infoV:∃ i z,Tryz.prog.info? 59=some i∧i.zero=some z∧i.size=6∧i.bytes=96:=by
 obtain ⟨i,h1,h2⟩:=Option.map_eq_some_iff.1 infoV0
 exact ⟨i,_,h1,congrArg (·.1) h2,congrArg (·.2.1) h2,congrArg (·.2.2) h2⟩
theorem src_empty {w:World} {t e:TypeId} (ht:Tryz.prog.underlying t=some (.slice e)) (z:Nat) (ao:Option Addr) (c:Nat):Src Tryz.prog z t (.slice ao 0 c) 0 [] w:=by
 cases ao with
 | none=>exact Src.ofNil w ht c
 | some a=>exact Src.ofSlice w ht a 0 c [] (by simp) (fun j u h=>by simp at h) (fun u h=>by simp at h)
theorem keys_src {w:World} {ko:Option Addr} {ks:List ByteArray} (kc:Nat) (h:KeysAt w ko ks):Src Tryz.prog 1 56 (.slice ko ks.length kc) ks.length (ks.map Value.string) w:=by
 cases ks with
 | nil=>exact src_empty Tryz.underlying56 1 ko kc
 | cons s0 ks =>
  obtain ⟨-,b,off,rfl,-,-⟩:=h 0 s0 rfl
  refine Src.ofSlice w Tryz.underlying56 ⟨b,off,none⟩ _ kc _ (by simp) (fun j u hj=>?_) (fun u hu=>?_)
  ·rw [List.getElem?_map] at hj
   obtain ⟨s,hs,rfl⟩:=Option.map_eq_some_iff.1 hj
   obtain ⟨-,b',off',e,-,hc⟩:=h j s hs
   injection e with e
   injection e with e1 e2
   subst e1 e2
   have ad:(⟨b,off,none⟩:Addr).add j=⟨b,off+j,none⟩:=by by_cases h:j=0 <;> simp [Addr.add,h]
   rw [ad]
   exact hc
  ·obtain ⟨s,-,rfl⟩:=List.mem_map.1 hu
   rfl
theorem wpList_append_run {ops:Array Oper} {rest:List Oper} {o:Oper} {a:Act} {w:World} {Q:Exit→Act→World→Prop} (hgd:o.guard=none) (s y:Operand) (t:TypeId)
  (ho:o.op = .call { callee:=.builtin .append,args:=#[s,y],argTypes:=#[t,t] }) (v u v':Value) (w':World) (hs:a.eval s=v) (hy:a.eval y=u)
  (hr:∀ ty,(Builtin.append_ #[t,t] ty #[v,u]).run Tryz.prog w = .ok v' w') (h:wpList Tryz.prog ops Q rest (a.put o.dst v') w'):wpList Tryz.prog ops Q (o :: rest) a w:=by
 refine wpList_plain hgd fun K hK=>?_
 unfold Oper.wp execOp
 simp only [ho,resolve,invoke,builtin,Sem.run_bind,Sem.run_pure,Result.andThen_ok,List.map_toArray,List.map_cons,List.map_nil,hs,hy,hr]
 exact hK _ _ h
def flatX (X:Nat→Array Value) (n:Nat):List Value:=(List.range n).flatMap fun i=>(X i).toList
theorem flatX_len {X:Nat→Array Value}:∀ (n:Nat),(∀ i,i<n→(X i).size=6)→(flatX X n).length=n*6
 | 0,_=>rfl
 | n+1,h=>by
  have:=flatX_len n (fun i hi=>h i (by omega))
  unfold flatX at this ⊢
  rw [List.range_succ,List.flatMap_append,List.length_append,this]
  simp [h n (by omega)]
  omega
theorem flatX_get {X:Nat→Array Value}:∀ (n:Nat),(∀ i,i<n→(X i).size=6)→∀ i j,i<n→j<6→(flatX X n)[i*6+j]? = (X i)[j]?
 | 0,_,i,j,hi,_=>by omega
 | n+1,h,i,j,hi,hj=>by
  have hl:=flatX_len n (fun i hi=>h i (by omega))
  have ih:=flatX_get n (fun i hi=>h i (by omega)) i j
  unfold flatX at hl ih ⊢
  rw [List.range_succ,List.flatMap_append]
  by_cases e:i<n
  ·rw [List.getElem?_append_left (by rw [hl];omega)]
   exact ih e hj
  ·obtain rfl:i=n:=by omega
   rw [List.getElem?_append_right (by rw [hl];omega),hl]
   simp [show i*6+j-i*6=j by omega]
theorem flatX_at {X:Nat→Array Value} {n q:Nat} {u:Value} (hX:∀ i,i<n→(X i).size=6) (h:(flatX X n)[q]? = some u):∃ i j,i<n∧j<6∧q=i*6+j∧(X i)[j]? = some u:=by
 have hq:=(List.getElem?_eq_some_iff.1 h).1
 rw [flatX_len n hX] at hq
 refine ⟨q / 6,q % 6,by omega,by omega,by omega,?_⟩
 rw [← flatX_get n hX (q / 6) (q % 6) (by omega) (by omega),show q / 6*6+q % 6=q by omega]
 exact h
theorem kids_src {w:World} {vo:Option Addr} {vs:List Vt} {X:Nat→Array Value} (vc:Nat) (h:RowAt w vo vs.length X) (hv:∀ (i:Nat) (u:Vt),vs[i]? = some u→ValAt w u (.agg (X i))):Src Tryz.prog 6 57 (.slice vo vs.length vc) vs.length (flatX X vs.length) w:=by
 by_cases h0:vs.length=0
 ·have e:flatX X vs.length=[]:=by rw [h0];rfl
  rw [e,h0]
  exact src_empty Tryz.underlying57 6 vo vc
 ·obtain ⟨-,b,off,rfl,-,-⟩:=h 0 (by omega)
  have hX:∀ i,i<vs.length→(X i).size=6:=fun i hi=>(h i hi).1
  refine Src.ofSlice w Tryz.underlying57 ⟨b,off,none⟩ _ vc _ (flatX_len _ hX) (fun q u hq=>?_) (fun u hu=>?_)
  ·obtain ⟨i,j,hi,hj,rfl,hu⟩:=flatX_at hX hq
   obtain ⟨-,b',off',e,-,hc⟩:=h i hi
   injection e with e
   injection e with e1 e2
   subst e1 e2
   have ad:(⟨b,off,none⟩:Addr).add (i*6+j)=⟨b,off+i*6+j,none⟩:=by
    rw [Nat.add_assoc]
    generalize i*6+j=q
    by_cases h:q=0 <;> simp [Addr.add,h]
   rw [ad,hc j hj]
   exact hu
  ·obtain ⟨q,hq⟩:=List.getElem?_of_mem hu
   obtain ⟨i,j,hi,hj,-,hu⟩:=flatX_at hX hq
   obtain ⟨ko,kc,vo,vc,hx⟩:=(hv i _ (List.getElem?_eq_getElem hi)).cells
   rw [hx] at hu
   match j,hj with
   | 0,_=>simp at hu;subst hu;rfl
   | 1,_=>simp at hu;subst hu;rfl
   | 2,_=>simp at hu;subst hu;rfl
   | 3,_=>simp at hu;subst hu;rfl
   | 4,_=>simp at hu;subst hu;rfl
   | 5,_=>simp at hu;subst hu;rfl
theorem set_same {cs:Array Value} {i:Nat} {v:Value} (h:cs[i]? = some v):cs.setIfInBounds i v=cs:=by
 obtain ⟨hi,he⟩:=Array.getElem?_eq_some_iff.1 h
 apply Array.ext_getElem?
 intro j
 rw [Array.getElem?_setIfInBounds]
 by_cases e:i=j
 ·subst e
  simp [hi,he]
 ·simp [e]
theorem at_type {w:World} {b:Nat} {cs cs':Array Value} {t t':TypeId} (h:At w b cs t) (h':At w b cs' t'):t=t':=by
 unfold At at h h'
 rw [h] at h'
 injection h' with h'
 injection h'
def VRow (H:Nat) (w:World) (vo:Option Addr) (vs:List Vt) (X:Nat→Array Value) (i:Nat):Prop :=
 vs.length=0∨∃ (R:Nat) (cs:Array Value) (Y:Nat→Array Value),vo=some ⟨R,0,none⟩∧H≤R∧At w R cs 59∧(∀ q,q<vs.length→(Y q).size=6∧∀ j,j<6→cs[q*6+j]? = (Y q)[j]?)∧(∀ q,i≤q→Y q=X q)∧∀ (q:Nat) (u:Vt),q<i→vs[q]? = some u→ValOn (fun b=>R<b) w u (.agg (Y q))
def KRow (H:Nat) (w:World) (ko:Option Addr) (ks:List ByteArray):Prop:=ks.length=0∨∃ (R:Nat) (cs:Array Value),ko=some ⟨R,0,none⟩∧H≤R∧At w R cs 9∧∀ (i:Nat) (s:ByteArray),ks[i]? = some s→cs[i]? = some (.string s)
theorem KRow.keys {H:Nat} {w:World} {ko:Option Addr} {ks:List ByteArray} (h:KRow H w ko ks) (hs:∀ (i:Nat) (s:ByteArray),ks[i]? = some s→s.size≤capT):KeysOn (fun b=>H≤b) w ko ks:=fun i s hi=>by
 rcases h with h | ⟨R,cs,rfl,h1,h2,h3⟩
 ·have:=(List.getElem?_eq_some_iff.1 hi).1;omega
 ·exact ⟨hs i s hi,R,0,rfl,h1,h2.lt,by rw [Nat.zero_add,h2.cell i];exact h3 i s hi⟩
theorem KRow.kept {H:Nat} {w w':World} {ko:Option Addr} {ks:List ByteArray} (h:KRow H w ko ks) (hb:Below w.heap.size w w'):KRow H w' ko ks:=by
 rcases h with h | ⟨R,cs,h0,h1,h2,h3⟩
 ·exact .inl h
 ·exact .inr ⟨R,cs,h0,h1,h2.keptAll hb,h3⟩
theorem KRow.setH {H h0:Nat} {w:World} {ko:Option Addr} {ks:List ByteArray} {cs0:Array Value} (h:KRow H w ko ks) (h1:At w h0 cs0 59) (v:Value) (o:Nat):KRow H (w.setCell ⟨h0,o,none⟩ v) ko ks:=by
 rcases h with h | ⟨R,cs,e,h2,h3,h4⟩
 ·exact .inl h
 ·refine .inr ⟨R,cs,e,h2,h3.other (p:=⟨h0,o,none⟩) (fun e=>?_) v,h4⟩
  subst e
  have:=at_type h1 h3
  exact absurd this (by decide)
theorem KRow.same {H R:Nat} {w wf:World} {ko:Option Addr} {ks:List ByteArray} {cs0:Array Value} (h:KRow H w ko ks) (hs:SameOn (fun b=>b≠R) w wf) (h1:At w R cs0 59):KRow H wf ko ks:=by
 rcases h with h | ⟨R',cs,e,h2,h3,h4⟩
 ·exact .inl h
 ·refine .inr ⟨R',cs,e,h2,?_,h4⟩
  have hne:R'≠R:=fun e=>by
   subst e
   exact absurd (at_type h1 h3) (by decide)
  exact (hs.2 R' hne h3.lt).trans h3
theorem same_six {w:World} {h:Nat} {y0 y1 y2 y3 y4 y5:Value}:SameOn (fun b=>b≠h) w ((((((w.setCell ⟨h,0,none⟩ y0).setCell ⟨h,1,none⟩ y1).setCell ⟨h,2,none⟩ y2).setCell ⟨h,3,none⟩ y3).setCell ⟨h,4,none⟩ y4).setCell ⟨h,5,none⟩ y5):=by
 refine ⟨by simp,fun b hb _=>?_⟩
 rw [Below.heap_setCell _ _ _ _ hb,Below.heap_setCell _ _ _ _ hb,Below.heap_setCell _ _ _ _ hb,Below.heap_setCell _ _ _ _ hb,Below.heap_setCell _ _ _ _ hb,Below.heap_setCell _ _ _ _ hb]
theorem val_done {H:Nat} {wr wf:World} {k:Int} {b:Bool} {r t:ByteArray} {ks:List ByteArray} {vs:List Vt} {ko:Option Addr} {kc:Nat} {vo:Option Addr} {vc:Nat} {X:Nat→Array Value}
  (hw:(Lit.int .i64 k).wf=true) (hz:r.size≤capT∧t.size≤capT∧ks.length≤capT∧vs.length≤capT) (hks:∀ (i:Nat) (s:ByteArray),ks[i]? = some s→s.size≤capT) (hK:KRow (H+2) wr ko ks) (hV:VRow (H+2) wr vo vs X vs.length) (hs:SameOn (fun b=>b≠H+1) wr wf) :
  ValOn (fun b=>H≤b) wf (.mk k b r t ks vs) (.agg #[.int .i64 k,.bool b,.string r,.string t,.slice ko ks.length kc,.slice vo vs.length vc]):=by
 have hs2:SameOn (fun b=>H+2≤b) wr wf:=⟨hs.1,fun b hb hl=>hs.2 b (by omega) hl⟩
 have hk:=(hK.keys hks).kept (S':=fun b=>H≤b) (fun b _ h=>by omega) hs2
 rcases hV with h0 | ⟨R,cs,Y,rfl,hR,hAt,hcs,-,hval⟩
 ·obtain rfl:vs=[]:=List.length_eq_zero_iff.1 h0
  exact .mk k b r t ks [] ko kc vo vc (fun _=>#[]) hw hz hk (fun i hi=>by simp at hi) (fun i u hu=>by simp at hu)
 ·refine .mk k b r t ks vs ko kc (some ⟨R,0,none⟩) vc Y hw hz hk (fun q hq=>?_) (fun q u hu=>?_)
  ·obtain ⟨h1,h2⟩:=hcs q hq
   have hl:R<wr.heap.size:=hAt.lt
   refine ⟨h1,R,0,rfl,by omega,Nat.lt_of_lt_of_le hl hs.1,fun j hj=>?_⟩
   rw [cell_same (hs2.2 R hR hl),Nat.zero_add,hAt.cell]
   exact h2 j hj
  ·exact (hval q u (List.getElem?_eq_some_iff.1 hu).1 hu).kept (fun b _ h=>by omega) ⟨hs.1,fun b hb hl=>hs.2 b (by omega) hl⟩
def TopAt (B:Nat) (w:World) (x:Value):Prop:=∃ (k:Int) (b:Bool) (r t:ByteArray) (ko:Option Addr) (n kc:Nat) (vo:Option Addr) (m vc:Nat),x = .agg #[.int .i64 k,.bool b,.string r,.string t,.slice ko n kc,.slice vo m vc] ∧
 (n=0∨∃ (R:Nat) (cs:Array Value),ko=some ⟨R,0,none⟩∧B≤R∧At w R cs 9)∧(m=0∨∃ (R:Nat) (cs:Array Value),vo=some ⟨R,0,none⟩∧B≤R∧At w R cs 59)
theorem TopAt.kept {B:Nat} {w w':World} {x:Value} (h:TopAt B w x) (hb:SameOn (fun b=>B≤b) w w'):TopAt B w' x:=by
 obtain ⟨k,b,r,t,ko,n,kc,vo,m,vc,he,h1,h2⟩:=h
 refine ⟨k,b,r,t,ko,n,kc,vo,m,vc,he,?_,?_⟩
 ·rcases h1 with h | ⟨R,cs,e,hR,hA⟩
  ·exact .inl h
  ·exact .inr ⟨R,cs,e,hR,(hb.2 R hR hA.lt).trans hA⟩
 ·rcases h2 with h | ⟨R,cs,e,hR,hA⟩
  ·exact .inl h
  ·exact .inr ⟨R,cs,e,hR,(hb.2 R hR hA.lt).trans hA⟩
theorem VRow.put {H:Nat} {w w' wf:World} {R:Nat} {cs:Array Value} {Y:Nat→Array Value} {vs:List Vt} {X:Nat→Array Value} {i:Nat} {u:Vt} {x0 x1 x2 x3 x4 x5:Value} (hi:i<vs.length) (hu:vs[i]? = some u) (hR:H≤R) (hRw:R<w.heap.size) (hf:wf=(((((w'.setCell ⟨R,i*6,none⟩ x0).setCell ⟨R,i*6+1,none⟩ x1).setCell ⟨R,i*6+2,none⟩ x2).setCell ⟨R,i*6+3,none⟩ x3).setCell ⟨R,i*6+4,none⟩ x4).setCell ⟨R,i*6+5,none⟩ x5)
  (hAt:At w' R cs 59) (hcs:∀ q,q<vs.length→(Y q).size=6∧∀ j,j<6→cs[q*6+j]? = (Y q)[j]?) (hYX:∀ q,i≤q→Y q=X q) (hval:∀ (q:Nat) (u:Vt),q<i→vs[q]? = some u→ValOn (fun b=>R<b) w' u (.agg (Y q))) (hx:ValOn (fun b=>w.heap.size≤b) w' u (.agg #[x0,x1,x2,x3,x4,x5])) :
  VRow H wf (some ⟨R,0,none⟩) vs X (i+1)∧SameOn (fun b=>b≠R) w' wf:=by
 have hsm:SameOn (fun b=>b≠R) w' wf:=by
  subst hf
  refine ⟨by simp,fun b hb _=>?_⟩
  rw [Below.heap_setCell _ _ _ _ hb,Below.heap_setCell _ _ _ _ hb,Below.heap_setCell _ _ _ _ hb,Below.heap_setCell _ _ _ _ hb,Below.heap_setCell _ _ _ _ hb,Below.heap_setCell _ _ _ _ hb]
 refine ⟨.inr ⟨R,((((((cs.setIfInBounds (i*6) x0).setIfInBounds (i*6+1) x1).setIfInBounds (i*6+2) x2).setIfInBounds (i*6+3) x3).setIfInBounds (i*6+4) x4).setIfInBounds (i*6+5) x5),fun q=>if q=i then #[x0,x1,x2,x3,x4,x5] else Y q,rfl,hR,?_,fun q hq=>?_,fun q hq=>?_,fun q v hq hv=>?_⟩,hsm⟩
 ·rw [hf]
  exact (((((hAt.set _ x0).set _ x1).set _ x2).set _ x3).set _ x4).set _ x5
 ·have hsz:i*6+5<cs.size:=by
   obtain ⟨a1,a2⟩:=hcs i hi
   have h5:(Y i)[5]? = some ((Y i)[5]'(by rw [a1];decide)):=Array.getElem?_eq_getElem (by rw [a1];decide)
   have:=a2 5 (by decide)
   rw [h5] at this
   exact (Array.getElem?_eq_some_iff.1 this).1
  by_cases e:q=i
  ·subst e
   dsimp only
   rw [if_pos rfl]
   refine ⟨rfl,fun j hj=>?_⟩
   simp only [Array.getElem?_setIfInBounds,Array.size_setIfInBounds]
   match j,hj with
   | 0,_=>simp;omega
   | 1,_=>simp;omega
   | 2,_=>simp;omega
   | 3,_=>simp;omega
   | 4,_=>simp;omega
   | 5,_=>simp;omega
  ·dsimp only
   rw [if_neg e]
   refine ⟨(hcs q hq).1,fun j hj=>?_⟩
   rw [Array.getElem?_setIfInBounds_ne (by omega),Array.getElem?_setIfInBounds_ne (by omega),Array.getElem?_setIfInBounds_ne (by omega),Array.getElem?_setIfInBounds_ne (by omega),Array.getElem?_setIfInBounds_ne (by omega),Array.getElem?_setIfInBounds_ne (by omega)]
   exact (hcs q hq).2 j hj
 ·dsimp only
  rw [if_neg (by omega)]
  exact hYX q (by omega)
 ·dsimp only
  have hm:∀ b,b<w'.heap.size→R<b→b≠R:=fun b _ h=>by omega
  by_cases e:q=i
  ·subst e
   rw [if_pos rfl]
   rw [hu] at hv
   injection hv with hv
   subst hv
   exact hx.kept (fun b _ h=>by omega) ⟨hsm.1,fun b h hl=>hsm.2 b (by omega) hl⟩
  ·rw [if_neg e]
   exact (hval q v (by omega) hv).kept (fun _ _ h=>h) ⟨hsm.1,fun b h hl=>hsm.2 b (by omega) hl⟩
end Go.Proofs.YtongedjlmohogaaGreatDoor

namespace Go.Proofs.YtongedjlmohogaaGreatDoor
open Go.RowKit Go.Shelf
set_option maxRecDepth 10000 in
theorem digitP_calls (c:Nat) (hc:c<256) (w:World):Calls Tryz.prog 214 #[.int .u8 (c:Int)] w fun e w'=>e = .returned (.int .i32 (hexZ c))∧w'=w:=by
 obtain ⟨z,hz⟩:∃ z,Hid (hexZ c=z):=⟨_,rfl⟩
 rw [hz.out]
 have hz2:=hz.out
 unfold hexZ at hz2
 by_cases h1:48≤c∧c≤57
 ·rw [if_pos h1] at hz2
  have h2:=h1.1
  have h3:=h1.2
  have h5:c<65:=by omega
  subst hz2
  clear h1 hz
  go_enter Tryz.func214,Tryz.ntmps214
  go_wp2
  go_ret
  exact ⟨by simp,rfl⟩
 ·rw [if_neg h1] at hz2
  by_cases h4:97≤c∧c≤102
  ·rw [if_pos h4] at hz2
   have h2:=h4.1
   have h3:=h4.2
   have h5:71≤c:=by omega
   have e:(c:Int)-97+10=(c:Int)-87:=by omega
   subst hz2
   clear h1 h4 hz
   go_enter Tryz.func214,Tryz.ntmps214
   go_wp2
   go_ret
   exact ⟨by simp,rfl⟩
  ·rw [if_neg h4] at hz2
   by_cases h6:65≤c∧c≤70
   ·rw [if_pos h6] at hz2
    have h2:=h6.1
    have h3:=h6.2
    have e1:(c:Int)+32-97=(c:Int)-65:=by omega
    have e:(c:Int)-65+10=(c:Int)-55:=by omega
    subst hz2
    clear h1 h4 h6 hz
    go_enter Tryz.func214,Tryz.ntmps214
    go_wp2
    go_ret
    exact ⟨by simp;try omega,rfl⟩
   ·rw [if_neg h6] at hz2
    subst hz2
    clear hz
    have key:c<48∨(58≤c∧c<65)∨(71≤c∧c<97)∨103≤c:=by omega
    clear h1 h4 h6
    go_enter Tryz.func214,Tryz.ntmps214
    rcases key with h | ⟨h,h'⟩ | ⟨h,h'⟩ | h
    ·go_wp2
     go_ret
     exact ⟨rfl,rfl⟩
    ·go_wp2
     go_ret
     exact ⟨rfl,rfl⟩
    ·go_wp2
     go_ret
     exact ⟨rfl,rfl⟩
    ·go_wp2
     go_ret
     exact ⟨rfl,rfl⟩
def pcT (p:Pc):Value:=.tuple #[.int .i32 (p.means:Int),.int .i64 (p.size:Int)]
set_option maxRecDepth 10000 in
theorem numbP_calls (s:ByteArray) (hs:s.size≤4611686018427387904) (w:World):Calls Tryz.prog 209 #[.string s] w fun e w'=>e = .returned (pcT (fourP (bAt s) s.size))∧w'=w:=by
 by_cases h6:s.size<6
 ·have e:fourP (bAt s) s.size=pc0:=by unfold fourP;rw [if_neg (by omega)]
  rw [e]
  have hi:(s.size:Int)<6:=by omega
  go_enter Tryz.func209,Tryz.ntmps209
  go_wp2
  exact bodyPost_ret (v:=.tuple #[.int .i32 0,.int .i64 0]) (by simp [results,Tryz.results209,go_sem];try decide) rfl ⟨rfl,rfl⟩
 ·have hi:(6:Int)≤(s.size:Int):=by omega
  have hd:=hid (fun (c:Nat) (hc:c<256) (w1:World)=>digitP_calls c hc w1)
  go_enter Tryz.func209,Tryz.ntmps209
  go_wp2
  go_loopw [4,5,6] (fun nn ii _ wr=>∃ j:Nat,j≤4∧ii = .int .i64 ((2+j:Nat):Int)∧nn = .int .i32 ((hexV (bAt s) j:Nat):Int)∧Hid (hexOk (bAt s) j=true)∧wr=w) (fun _ ii _ _=>6-(intOf ii).toNat)
  case atStart=>exact ⟨0,by decide,rfl,rfl,rfl,rfl⟩
  case round =>
   obtain ⟨j,hj,rfl,rfl,hok,rfl⟩:=hrel
   obtain ⟨V,hV⟩:∃ V,Hid (hexV (bAt s) j=V):=⟨_,rfl⟩
   by_cases hlt:j<4
   ·have hVl:V<4096:=by
     have h1:=hexV_lt (bAt s) j hj
     have h2:16 ^ j≤16 ^ 3:=Nat.pow_le_pow_right (by decide) (by omega)
     rw [hV.out] at h1
     omega
    rw [hV.out]
    obtain ⟨P,hP⟩:∃ P,Hid (2+j=P):=⟨_,rfl⟩
    rw [hP.out]
    have hPi:(P:Int)<6:=by have:=hP.out;omega
    have hPs:P<s.size:=by have:=hP.out;omega
    have hPz:(P:Int)<(s.size:Int):=by omega
    have hx:=bAt_at s P hPs
    obtain ⟨x,hxe⟩:∃ x,Hid (bAt s P=x):=⟨_,rfl⟩
    rw [hxe.out] at hx
    have hxl:x<256:=by rw [← hxe.out];exact bAt_lt s P
    obtain ⟨z,hz⟩:∃ z,Hid (hexZ x=z):=⟨_,rfl⟩
    have hzl:-1≤z∧z<16:=by rw [← hz.out];exact hexZ_lt x
    have hzl1:=hzl.1
    have hzl2:=hzl.2
    have hdx:=hid (hd.out x hxl)
    rw [hz.out] at hdx
    clear hzl
    go_wp2_with fail
    refine Calls.mono (hdx.out _) ?_
    rintro e w1 ⟨rfl,hw1⟩
    obtain rfl:=hw1.symm
    clear hw1 hdx
    by_cases hz0:z<0
    ·have e:fourP (bAt s) s.size=pc0:=by
      unfold fourP
      rw [if_neg]
      rintro ⟨-,h⟩
      have h2:=hexOk_le (bAt s) (i:=j+1) h (by omega)
      rw [hexOk,Bool.and_eq_true,hP.out,hxe.out,hz.out] at h2
      simp at h2
      omega
     replace e:=hid e
     go_wp2
     exact bodyPost_ret (v:=.tuple #[.int .i32 0,.int .i64 0]) (by simp [results,Tryz.results209,go_sem];try decide) rfl ⟨by rw [e.out];rfl,rfl⟩
    ·obtain ⟨zn,rfl⟩:∃ zn:Nat,z=(zn:Int):=⟨z.toNat,by omega⟩
     clear hz0
     go_wp2
     go_roundw
     case rel =>
      refine ⟨j+1,by omega,?_,?_,?_,by first | trivial | rfl⟩
      ·have:=hP.out
       simp
       omega
      ·rw [hexV,hV.out,hP.out,hxe.out,hz.out]
       simp
      ·show _=_
       rw [hexOk,hok.out,hP.out,hxe.out,hz.out]
       simp
     case measure=>simp [intOf];have:=hP.out;omega
   ·rw [hV.out]
    obtain rfl:j=4:=by omega
    have e:fourP (bAt s) s.size=⟨6,V,true⟩:=by
     unfold fourP
     rw [if_pos ⟨by omega,hok.out⟩,hV.out]
    replace e:=hid e
    go_wp2
    exact bodyPost_ret (v:=.tuple #[.int .i32 (V:Int),.int .i64 6]) (by simp [results,Tryz.results209,go_sem];try decide) rfl ⟨by rw [e.out];rfl,rfl⟩
def sgP (b:Nat→Nat) (n:Nat):Pc:=if 2≤n∧b 0=92 then nextP b n else pc0
set_option maxRecDepth 10000 in
set_option maxHeartbeats 1000000 in
theorem singP_calls (s:ByteArray) (hs:s.size≤4611686018427387904) (w:World):Calls Tryz.prog 202 #[.string s] w fun e w'=>e = .returned (pcT (sgP (bAt s) s.size))∧w'=w:=by
 have hn:=hid (numbP_calls s hs w)
 obtain ⟨r,hr⟩:∃ r,Hid (sgP (bAt s) s.size=r):=⟨_,rfl⟩
 have hr2:=hr.out
 rw [hr.out]
 unfold sgP at hr2
 by_cases h2:s.size<2
 ·rw [if_neg (by omega)] at hr2
  subst hr2
  have hi:(s.size:Int)<2:=by omega
  clear hn hr
  go_enter Tryz.func202,Tryz.ntmps202
  go_wp2
  exact bodyPost_ret (v:=.tuple #[.int .i32 0,.int .i64 0]) (by simp [results,Tryz.results202,go_sem];try decide) rfl ⟨rfl,rfl⟩
 ·have hi:(2:Int)≤(s.size:Int):=by omega
  have h0:0<s.size:=by omega
  have h1:1<s.size:=by omega
  have hx:=bAt_at s 0 h0
  have hy:=bAt_at s 1 h1
  obtain ⟨x,hX⟩:∃ x,Hid (bAt s 0=x):=⟨_,rfl⟩
  obtain ⟨y,hY⟩:∃ y,Hid (bAt s 1=y):=⟨_,rfl⟩
  rw [hX.out] at hx hr2
  rw [hY.out] at hy
  have hxl:x<256:=by rw [← hX.out];exact bAt_lt s 0
  have hyl:y<256:=by rw [← hY.out];exact bAt_lt s 1
  by_cases k92:x=92
  ·subst k92
   rw [if_pos ⟨by omega,rfl⟩] at hr2
   unfold nextP at hr2
   rw [hX.out,hY.out,if_neg (by decide),if_neg (by simp),if_neg h2] at hr2
   clear hr h2 hX hY
   by_cases k34:y=34
   ·subst k34
    rw [if_pos (by decide)] at hr2
    subst hr2
    clear hn
    go_enter Tryz.func202,Tryz.ntmps202
    go_wp2
    exact bodyPost_ret (v:=.tuple #[.int .i32 34,.int .i64 2]) (by simp [results,Tryz.results202,go_sem];try decide) rfl ⟨rfl,rfl⟩
   have m34:((y:Int) == 34)=false:=by simp;omega
   by_cases k92:y=92
   ·subst k92
    rw [if_pos (by decide)] at hr2
    subst hr2
    clear hn
    go_enter Tryz.func202,Tryz.ntmps202
    go_wp2
    exact bodyPost_ret (v:=.tuple #[.int .i32 92,.int .i64 2]) (by simp [results,Tryz.results202,go_sem];try decide) rfl ⟨rfl,rfl⟩
   have m92:((y:Int) == 92)=false:=by simp;omega
   by_cases k47:y=47
   ·subst k47
    rw [if_pos (by decide)] at hr2
    subst hr2
    clear hn
    go_enter Tryz.func202,Tryz.ntmps202
    go_wp2
    exact bodyPost_ret (v:=.tuple #[.int .i32 47,.int .i64 2]) (by simp [results,Tryz.results202,go_sem];try decide) rfl ⟨rfl,rfl⟩
   have m47:((y:Int) == 47)=false:=by simp;omega
   rw [if_neg (by omega)] at hr2
   by_cases k98:y=98
   ·subst k98
    rw [if_pos rfl] at hr2
    subst hr2
    clear hn
    go_enter Tryz.func202,Tryz.ntmps202
    go_wp2
    exact bodyPost_ret (v:=.tuple #[.int .i32 8,.int .i64 2]) (by simp [results,Tryz.results202,go_sem];try decide) rfl ⟨rfl,rfl⟩
   have m98:((y:Int) == 98)=false:=by simp;omega
   rw [if_neg k98] at hr2
   by_cases k102:y=102
   ·subst k102
    rw [if_pos rfl] at hr2
    subst hr2
    clear hn
    go_enter Tryz.func202,Tryz.ntmps202
    go_wp2
    exact bodyPost_ret (v:=.tuple #[.int .i32 12,.int .i64 2]) (by simp [results,Tryz.results202,go_sem];try decide) rfl ⟨rfl,rfl⟩
   have m102:((y:Int) == 102)=false:=by simp;omega
   rw [if_neg k102] at hr2
   by_cases k110:y=110
   ·subst k110
    rw [if_pos rfl] at hr2
    subst hr2
    clear hn
    go_enter Tryz.func202,Tryz.ntmps202
    go_wp2
    exact bodyPost_ret (v:=.tuple #[.int .i32 10,.int .i64 2]) (by simp [results,Tryz.results202,go_sem];try decide) rfl ⟨rfl,rfl⟩
   have m110:((y:Int) == 110)=false:=by simp;omega
   rw [if_neg k110] at hr2
   by_cases k114:y=114
   ·subst k114
    rw [if_pos rfl] at hr2
    subst hr2
    clear hn
    go_enter Tryz.func202,Tryz.ntmps202
    go_wp2
    exact bodyPost_ret (v:=.tuple #[.int .i32 13,.int .i64 2]) (by simp [results,Tryz.results202,go_sem];try decide) rfl ⟨rfl,rfl⟩
   have m114:((y:Int) == 114)=false:=by simp;omega
   rw [if_neg k114] at hr2
   by_cases k116:y=116
   ·subst k116
    rw [if_pos rfl] at hr2
    subst hr2
    clear hn
    go_enter Tryz.func202,Tryz.ntmps202
    go_wp2
    exact bodyPost_ret (v:=.tuple #[.int .i32 9,.int .i64 2]) (by simp [results,Tryz.results202,go_sem];try decide) rfl ⟨rfl,rfl⟩
   have m116:((y:Int) == 116)=false:=by simp;omega
   rw [if_neg k116] at hr2
   by_cases k117:y=117
   ·subst k117
    rw [if_pos rfl] at hr2
    rw [hr2] at hn
    obtain ⟨sz,mn,fr⟩:=r
    unfold pcT at hn ⊢
    dsimp only at hn ⊢
    clear hr2
    go_enter Tryz.func202,Tryz.ntmps202
    go_wp2_with fail
    refine Calls.mono hn.out ?_
    rintro e w1 ⟨rfl,hw1⟩
    obtain rfl:=hw1.symm
    clear hn hw1
    go_wp2
    exact bodyPost_ret (v:=.tuple #[.int .i32 (mn:Int),.int .i64 (sz:Int)]) (by simp [results,Tryz.results202,go_sem];try decide) rfl ⟨rfl,rfl⟩
   have m117:((y:Int) == 117)=false:=by simp;omega
   rw [if_neg k117] at hr2
   subst hr2
   clear hn
   go_enter Tryz.func202,Tryz.ntmps202
   go_wp2
   exact bodyPost_ret (v:=.tuple #[.int .i32 0,.int .i64 0]) (by simp [results,Tryz.results202,go_sem];try decide) rfl ⟨rfl,rfl⟩
  ·rw [if_neg (by omega)] at hr2
   subst hr2
   have m92:((x:Int) != 92)=true:=by simp;omega
   clear hn hr
   go_enter Tryz.func202,Tryz.ntmps202
   go_wp2
   exact bodyPost_ret (v:=.tuple #[.int .i32 0,.int .i64 0]) (by simp [results,Tryz.results202,go_sem];try decide) rfl ⟨rfl,rfl⟩
def sgL (l:List Nat):Pc:=sgP (lb l) l.length
theorem sg_L (s:ByteArray):sgP (bAt s) s.size=sgL (byts s):=by
 unfold sgL
 rw [bAt_lb,byts_length]
def meanL (l:List Nat):Nat × Nat :=
 if (sgL l).means<55296∨57343<(sgL l).means then ((sgL l).means,(sgL l).size)
 else if (sgL l).means<56320∧56320≤(sgL (l.drop (sgL l).size)).means∧(sgL (l.drop (sgL l).size)).means≤57343 then (65536+((sgL l).means-55296)*1024+((sgL (l.drop (sgL l).size)).means-56320),(sgL l).size+(sgL (l.drop (sgL l).size)).size)
 else (65533,(sgL l).size)
theorem sgP_size (b:Nat→Nat) (n:Nat) (hb:∀ i,b i<256):(sgP b n).size≤n∧(sgP b n).means<65536:=by
 unfold sgP
 split
 ·rename_i h
  exact nextP_size b n (by omega) hb
 ·exact ⟨Nat.zero_le _,by decide⟩
theorem sgL_size {l:List Nat} (h:∀ x ∈ l,x<256):(sgL l).size≤l.length∧(sgL l).means<65536:=sgP_size _ _ (lb_lt h)
set_option maxRecDepth 10000 in
set_option maxHeartbeats 1000000 in
theorem meanP_calls (s:ByteArray) (hs:s.size≤4611686018427387904) (M Z:Nat) (hM:Hid (meanL (byts s)=(M,Z))) (w:World):Calls Tryz.prog 188 #[.string s] w fun e w'=>e = .returned (.tuple #[.int .i32 (M:Int),.int .i64 (Z:Int)])∧w'=w:=by
 have hsg:=hid (singP_calls s hs w)
 rw [sg_L] at hsg
 obtain ⟨sz,mn,fr,hP⟩:∃ sz mn fr,Hid (sgL (byts s)=⟨sz,mn,fr⟩):=⟨_,_,_,rfl⟩
 have hps:=sgL_size (byts_lt s)
 have hM2:=hM.out
 unfold meanL at hM2
 rw [hP.out] at hps hsg hM2
 rw [byts_length] at hps
 dsimp only at hM2 hps
 have hsz:sz≤s.size:=hps.1
 have hmn:mn<65536:=hps.2
 have hszi:(sz:Int)≤(s.size:Int):=by omega
 unfold pcT at hsg
 dsimp only at hsg
 clear hps hM
 by_cases h1:mn<55296
 ·rw [if_pos (.inl h1)] at hM2
  obtain ⟨rfl,rfl⟩:mn=M∧sz=Z:=by simpa using hM2
  have i1:(mn:Int)<55296:=by omega
  clear hM2
  go_enter Tryz.func188,Tryz.ntmps188
  go_wp2_with fail
  refine Calls.mono hsg.out ?_
  rintro e w1 ⟨rfl,hw1⟩
  obtain rfl:=hw1.symm
  clear hsg hw1
  go_wp2
  exact bodyPost_ret (v:=.tuple #[.int .i32 (mn:Int),.int .i64 (sz:Int)]) (by simp [results,Tryz.results188,go_sem];try decide) rfl ⟨rfl,rfl⟩
 ·have i1:decide ((mn:Int)<55296)=false:=by simp;omega
  by_cases h2:57343<mn
  ·rw [if_pos (.inr h2)] at hM2
   obtain ⟨rfl,rfl⟩:mn=M∧sz=Z:=by simpa using hM2
   have i2:(57343:Int)<(mn:Int):=by omega
   clear hM2
   go_enter Tryz.func188,Tryz.ntmps188
   go_wp2_with fail
   refine Calls.mono hsg.out ?_
   rintro e w1 ⟨rfl,hw1⟩
   obtain rfl:=hw1.symm
   clear hsg hw1
   go_wp2
   exact bodyPost_ret (v:=.tuple #[.int .i32 (mn:Int),.int .i64 (sz:Int)]) (by simp [results,Tryz.results188,go_sem];try decide) rfl ⟨rfl,rfl⟩
  ·have i2:decide ((57343:Int)<(mn:Int))=false:=by simp;omega
   rw [if_neg (by omega)] at hM2
   by_cases h3:mn<56320
   ·have i3:(mn:Int)<56320:=by omega
    obtain ⟨t,ht⟩:∃ t,s.extract sz s.size=t:=⟨_,rfl⟩
    obtain ⟨b1,b2⟩:=byts_from s sz
    rw [ht] at b1 b2
    have hsg2:=hid (singP_calls t (by omega))
    rw [← b1] at hM2
    obtain ⟨sz2,mn2,fr2,hP2⟩:∃ sz mn fr,Hid (sgL (byts t)=⟨sz,mn,fr⟩):=⟨_,_,_,rfl⟩
    have hps2:=sgL_size (byts_lt t)
    have hsg3:Hid (∀ w:World,Calls Tryz.prog 202 #[.string t] w fun e w'=>e = .returned (.tuple #[.int .i32 (mn2:Int),.int .i64 (sz2:Int)])∧w'=w):=fun w=>by
     have h:=hsg2.out w
     rw [sg_L,hP2.out] at h
     exact h
    rw [hP2.out] at hM2 hps2
    rw [byts_length,b2] at hps2
    dsimp only at hM2 hps2
    have hsz2:sz2≤s.size-sz:=hps2.1
    have hmn2:mn2<65536:=hps2.2
    have hsz2i:(sz:Int)+(sz2:Int)≤(s.size:Int):=by omega
    clear hps2 hsg2 b1 b2 hsz2
    by_cases h4:56320≤mn2
    ·have i4:(56320:Int)≤(mn2:Int):=by omega
     by_cases h5:mn2≤57343
     ·have i5:(mn2:Int)≤57343:=by omega
      rw [if_pos ⟨h3,h4,h5⟩] at hM2
      simp only [Prod.mk.injEq] at hM2
      obtain ⟨e1,e2⟩:=hM2
      have e1i:(65536:Int)+((mn:Int)-55296)*1024+((mn2:Int)-56320)=(M:Int):=by omega
      have e2i:(sz:Int)+(sz2:Int)=(Z:Int):=by omega
      have e1h:=hid e1i
      have e2h:=hid e2i
      clear e1 e2 e1i e2i
      go_enter Tryz.func188,Tryz.ntmps188
      go_wp2_with fail
      refine Calls.mono hsg.out ?_
      rintro e w1 ⟨rfl,hw1⟩
      obtain rfl:=hw1.symm
      clear hsg hw1
      go_wp2_with fail
      refine Calls.mono (hsg3.out _) ?_
      rintro e w1 ⟨rfl,hw1⟩
      obtain rfl:=hw1.symm
      clear hsg3 hw1
      go_wp2
      refine bodyPost_ret (v:=.tuple #[.int .i32 (65536+((mn:Int)-55296)*1024+((mn2:Int)-56320)),.int .i64 ((sz:Int)+(sz2:Int))]) (by simp [results,Tryz.results188,go_sem];try decide) rfl ⟨?_,rfl⟩
      rw [e1h.out,e2h.out]
     ·have i5:decide ((mn2:Int)≤57343)=false:=by simp;omega
      rw [if_neg (by omega)] at hM2
      obtain ⟨rfl,rfl⟩:65533=M∧sz=Z:=by simpa using hM2
      clear hM2
      go_enter Tryz.func188,Tryz.ntmps188
      go_wp2_with fail
      refine Calls.mono hsg.out ?_
      rintro e w1 ⟨rfl,hw1⟩
      obtain rfl:=hw1.symm
      clear hsg hw1
      go_wp2_with fail
      refine Calls.mono (hsg3.out _) ?_
      rintro e w1 ⟨rfl,hw1⟩
      obtain rfl:=hw1.symm
      clear hsg3 hw1
      go_wp2
      exact bodyPost_ret (v:=.tuple #[.int .i32 65533,.int .i64 (sz:Int)]) (by simp [results,Tryz.results188,go_sem];try decide) rfl ⟨rfl,rfl⟩
    ·have i4:decide ((56320:Int)≤(mn2:Int))=false:=by simp;omega
     rw [if_neg (by omega)] at hM2
     obtain ⟨rfl,rfl⟩:65533=M∧sz=Z:=by simpa using hM2
     clear hM2
     go_enter Tryz.func188,Tryz.ntmps188
     go_wp2_with fail
     refine Calls.mono hsg.out ?_
     rintro e w1 ⟨rfl,hw1⟩
     obtain rfl:=hw1.symm
     clear hsg hw1
     go_wp2_with fail
     refine Calls.mono (hsg3.out _) ?_
     rintro e w1 ⟨rfl,hw1⟩
     obtain rfl:=hw1.symm
     clear hsg3 hw1
     go_wp2
     exact bodyPost_ret (v:=.tuple #[.int .i32 65533,.int .i64 (sz:Int)]) (by simp [results,Tryz.results188,go_sem];try decide) rfl ⟨rfl,rfl⟩
   ·have i3:decide ((mn:Int)<56320)=false:=by simp;omega
    rw [if_neg (by omega)] at hM2
    obtain ⟨rfl,rfl⟩:65533=M∧sz=Z:=by simpa using hM2
    clear hM2
    go_enter Tryz.func188,Tryz.ntmps188
    go_wp2_with fail
    refine Calls.mono hsg.out ?_
    rintro e w1 ⟨rfl,hw1⟩
    obtain rfl:=hw1.symm
    clear hsg hw1
    go_wp2
    exact bodyPost_ret (v:=.tuple #[.int .i32 65533,.int .i64 (sz:Int)]) (by simp [results,Tryz.results188,go_sem];try decide) rfl ⟨rfl,rfl⟩
def plTB (c:Nat):Bool:=decide (32≤c∧c≠34∧c≠92)
def IsPl (s:ByteArray) (k:Nat):Prop:=k≤s.size∧(∀ i,i<k→plTB (bAt s i)=true)∧(k<s.size→plTB (bAt s k)=false)
theorem pl_ex (s:ByteArray):∃ k,IsPl s k:=by
 have h:∀ n,n≤s.size→(∃ k,IsPl s k)∨∀ i,i<n→plTB (bAt s i)=true:=by
  intro n
  induction n with
  | zero=>exact fun _=>.inr (fun i hi=>by omega)
  | succ n ih =>
   intro hn
   rcases ih (by omega) with h | h
   ·exact .inl h
   ·cases hp:plTB (bAt s n) with
    | false=>exact .inl ⟨n,by omega,h,fun _=>hp⟩
    | true=>exact .inr (fun i hi=>by
      by_cases e:i=n
      ·subst e;exact hp
      ·exact h i (by omega))
 rcases h s.size (Nat.le_refl _) with h | h
 ·exact h
 ·exact ⟨s.size,Nat.le_refl _,h,fun h=>by omega⟩
set_option maxRecDepth 10000 in
theorem plainP_calls (s:ByteArray) (hs:s.size≤4611686018427387904) (k:Nat) (hk:Hid (IsPl s k)) (w:World):Calls Tryz.prog 81 #[.string s] w fun e w'=>e = .returned (.int .i64 (k:Int))∧w'=w:=by
 have hks:k≤s.size:=hk.out.1
 have hsi:(s.size:Int)≤4611686018427387904:=by omega
 go_enter Tryz.func81,Tryz.ntmps81
 go_wp2
 go_loopw [3,4,7] (fun _ _ ii wr=>∃ i:Nat,i≤k∧ii = .int .i64 (i:Int)∧wr=w) (fun _ _ ii _=>s.size-(intOf ii).toNat)
 case atStart=>exact ⟨0,Nat.zero_le _,rfl,rfl⟩
 case round =>
  obtain ⟨i,hi,rfl,rfl⟩:=hrel
  by_cases hlt:i<s.size
  ·have hli:(i:Int)<(s.size:Int):=by omega
   have hx:=bAt_at s i hlt
   obtain ⟨x,hX⟩:∃ x,Hid (bAt s i=x):=⟨_,rfl⟩
   rw [hX.out] at hx
   have hxl:x<256:=by rw [← hX.out];exact bAt_lt s i
   by_cases hp:plTB x=true
   ·have hik:i<k:=by
     by_cases e:i=k
     ·subst e
      have:=hk.out.2.2 hlt
      rw [hX.out,hp] at this
      cases this
     ·omega
    unfold plTB at hp
    simp only [decide_eq_true_eq] at hp
    have m32:decide ((x:Int)<32)=false:=by simp;omega
    have m34:((x:Int) == 34)=false:=by simp;omega
    have m92:((x:Int) == 92)=false:=by simp;omega
    have n32:decide (x<32)=false:=by simp;omega
    clear hp
    go_wp2
    go_roundw
    case rel=>exact ⟨i+1,by omega,by simp,trivial⟩
    case measure=>simp [intOf];omega
   ·have hik:k=i:=by
     by_cases e:i=k
     ·exact e.symm
     ·have:=hk.out.2.1 i (by omega)
      rw [hX.out] at this
      exact absurd this hp
    subst hik
    unfold plTB at hp
    simp only [decide_eq_true_eq] at hp
    by_cases a1:x<32
    ·have b1:(x:Int)<32:=by omega
     clear hp
     go_wp2
     go_ret
     exact ⟨rfl,rfl⟩
    ·have m32:decide ((x:Int)<32)=false:=by simp;omega
     have n32:decide (x<32)=false:=by simp;omega
     by_cases a2:x=34
     ·subst a2
      clear hp
      go_wp2
      go_ret
      exact ⟨rfl,rfl⟩
     ·have m34:((x:Int) == 34)=false:=by simp;omega
      obtain rfl:x=92:=by omega
      clear hp
      go_wp2
      go_ret
      exact ⟨rfl,rfl⟩
  ·obtain rfl:i=s.size:=by omega
   obtain rfl:k=s.size:=by omega
   go_wp2
   go_ret
   exact ⟨rfl,rfl⟩
end Go.Proofs.YtongedjlmohogaaGreatDoor

namespace Go.Proofs.YtongedjlmohogaaGreatDoor
open Go.RowKit Go.Shelf
theorem sizeBd:(Tryz.prog.info? 65).map (·.size)=some 2:=by kernel_rfl
theorem liesBd:liesAt Tryz.prog Tryz.prog.depth 65 (2 / Tryz.prog.cellsOf 65) 0 65 1=true:=by kernel_rfl
theorem infoBy:(Tryz.prog.info? 5).map (fun i=>(i.zero,i.size,i.bytes))=some (some (.int .u8 0),1,1):=by kernel_rfl
theorem cellsBy:Tryz.prog.cellsOf 5=1:=by kernel_rfl
theorem shapeBd {w:World} {m:Nat} {p v:Value} (h:At w m #[p,v] 65):w.shape? m=some (65,2):=by
 have h':w.heap[m]? = some (.cells #[p,v] 65):=h
 simp [World.shape?,h']
set_option maxRecDepth 100000 in
set_option maxHeartbeats 1000000 in
theorem bcheck_used (m:Nat) (v:Value) (w:World) (h:At w m #[.pointer (some ⟨m,0,none⟩),v] 65) :
  Calls Tryz.prog 48 #[.pointer (some ⟨m,0,none⟩)] w fun e w'=>e = .returned (.tuple #[])∧w'=w:=by
 obtain ⟨j,hj,-⟩:=Option.map_eq_some_iff.1 sizeBd
 have c0:=h.cell 0
 simp only [List.getElem?_toArray,List.getElem?_cons_zero] at c0
 go_enter Tryz.func48,Tryz.ntmps48
 go_wp2
 rw [Lib.run_neq_ptr_same w _ Tryz.underlying62 hj]
 go_wp2
 go_end0
 exact ⟨rfl,rfl⟩
set_option maxRecDepth 100000 in
set_option maxHeartbeats 1000000 in
theorem bcheck_fresh (m:Nat) (v:Value) (w:World) (h:At w m #[.pointer none,v] 65) :
  Calls Tryz.prog 48 #[.pointer (some ⟨m,0,none⟩)] w fun e w'=>e = .returned (.tuple #[])∧w'=w.setCell ⟨m,0,none⟩ (.pointer (some ⟨m,0,none⟩)):=by
 obtain ⟨j,hj,hjs⟩:=Option.map_eq_some_iff.1 sizeBd
 have hsh:=shapeBd h
 have c0:=h.cell 0
 have f0:=h.frozen 0
 simp only [List.getElem?_toArray,List.getElem?_cons_zero] at c0
 go_enter Tryz.func48,Tryz.ntmps48
 go_wp2
 rw [Lib.run_to_unsafe w ⟨m,0,none⟩ Tryz.underlying62 Tryz.underlying103 hj (by rw [hjs];decide) hsh (Nat.zero_lt_succ 1)]
 simp only [Result.andThen]
 rw [Oper.upon_value]
 go_wp2
 rw [run_callFunc_extern Tryz.func77 (by kernel_rfl) (by kernel_rfl) (by kernel_rfl) (e:=Extern.AbiNoEscape.same) (by kernel_rfl)]
 rw [Lib.run_noEscape]
 simp only [Result.andThen]
 rw [Oper.upon_value]
 go_wp2
 rw [Lib.run_from_unsafe w ⟨m,0,none⟩ Tryz.underlying103 Tryz.underlying62 hj hsh liesBd]
 simp only [Result.andThen]
 rw [Oper.upon_value]
 go_wp2
 go_end0
 exact ⟨rfl,rfl⟩
def BdI (W:World) (m B:Nat) (l:List UInt8):Prop:=∃ p v,At W m #[p,v] 65∧(p = .pointer none∨p = .pointer (some ⟨m,0,none⟩))∧W.ownsRow B 5 1 v l.length (Lib.byteCells l)
def SafeB (m b:Nat) (W:World):Prop:=∃ p v,At W m #[p,v] 65∧v.ownBlock≠some b
section
variable {W W':World} {m B:Nat} {l:List UInt8}
theorem rowY_block {v:Value} {n:Nat} {xs:List Value} (h:W.ownsRow B 5 1 v n xs):v.ownBlock=none∨∃ g cur,v.ownBlock=some g∧B≤g∧W.heap[g]? = some (.cells cur 5 (0,0)):=by
 rcases h.2 with ⟨rfl,_⟩ | ⟨g,cap,cur,rfl,hb,hgb,_⟩
 ·exact .inl rfl
 ·exact .inr ⟨g,cur,rfl,hb,hgb⟩
theorem BdI.kept (h:BdI W m B l) (hb:Below W.heap.size W W'):BdI W' m B l:=by
 obtain ⟨p,v,h1,hp,h2⟩:=h
 refine ⟨p,v,h1.keptAll hb,hp,h2.kept (grown_of_below hb) ?_⟩
 rcases rowY_block h2 with e | ⟨g,cur,e,_⟩
 ·exact .inl e
 ·exact .inr (by rw [e];simp)
theorem BdI.own (h:BdI W m B l) {row:Option Nat} (hg:W.grownBy W' row) (hr:∀ r,row=some r→∃ o:Obj,W.heap[r]? = some o∧o.isCells=false):BdI W' m B l:=by
 obtain ⟨p,v,h1,hp,h2⟩:=h
 refine ⟨p,v,h1.own hg hr,hp,h2.kept hg ?_⟩
 rcases rowY_block h2 with e | ⟨g,cur,e,_,hgb⟩
 ·exact .inl e
 ·refine .inr fun e'=>?_
  obtain ⟨o,ho,hc⟩:=hr g (by rw [← e',e])
  rw [hgb] at ho
  cases ho
  cases hc
theorem BdI.good (h:BdI W m B l) {g:Nat} (hg:g<B):(∀ o,SafeB m W.heap.size (W.alloc o))∧SafeB m g W:=by
 obtain ⟨p,v,h1,-,h2⟩:=h
 refine ⟨fun o=>⟨p,v,h1.alloc o,fun e=>?_⟩,p,v,h1,fun e=>?_⟩
 ·have:=(h2.lt _ e).2;omega
 ·have:=(h2.lt _ e).1;omega
theorem BdI.other (h:BdI W m B l) {q:Nat} (hq:q≠m) (hqB:q<B) (x:Value):BdI (W.setCell ⟨q,0,none⟩ x) m B l:=by
 obtain ⟨p,v,h1,hp,h2⟩:=h
 exact ⟨p,v,h1.other (p:=⟨q,0,none⟩) (fun e=>hq e.symm) x,hp,ownsRow_setCell_below h2 (a:=⟨q,0,none⟩) hqB x⟩
end
theorem bwrite_core {W w2:World} {m B n0 Bh g:Nat} {v v':Value} {n k:Nat} {xs ys:List Value} (hv:At W m #[.pointer (some ⟨m,0,none⟩),v] 65) (hrow:W.ownsRow B 5 1 v n xs) (hm:m<B) (hn0:n0≤m) (hBh:m<Bh) (hgm:g≠m)
  (hown':w2.ownsRow B 5 1 v' k ys) (hg:W.grownBy w2 v.ownBlock) (hap:v'.ownBlock=v.ownBlock∨∃ g,v'.ownBlock=some g∧W.heap.size≤g) :
  At w2 m #[.pointer (some ⟨m,0,none⟩),v] 65∧At (w2.setCell ⟨m,1,none⟩ v') m #[.pointer (some ⟨m,0,none⟩),v'] 65∧(w2.setCell ⟨m,1,none⟩ v').ownsRow B 5 1 v' k ys∧HeldS (SafeB m) n0 Bh g W (w2.setCell ⟨m,1,none⟩ v'):=by
 have hmv:v.ownBlock≠some m:=fun e=>by have:=(hrow.lt m e).1;omega
 have hmv':v'.ownBlock≠some m:=fun e=>by have:=(hown'.lt m e).1;omega
 have a1:At w2 m #[.pointer (some ⟨m,0,none⟩),v] 65:=(hg.block m hv.lt (fun e=>hmv e.symm)).trans hv
 have a2:At (w2.setCell ⟨m,1,none⟩ v') m #[.pointer (some ⟨m,0,none⟩),v'] 65:=by have:=a1.set 1 v';simpa using this
 have hgs:=grownBy_setCell' w2 m v'
 have blk:∀ b,b<W.heap.size→b≠m→v.ownBlock≠some b→(w2.setCell ⟨m,1,none⟩ v').heap[b]? = W.heap[b]?:=fun b hb hbm hbv =>
  (Below.heap_setCell w2 ⟨m,1,none⟩ v' b hbm).trans (hg.block b hb (fun e=>hbv e.symm))
 have hsz:W.heap.size≤(w2.setCell ⟨m,1,none⟩ v').heap.size:=Nat.le_trans hg.size (KeepsOthers.setCell w2 ⟨m,1,none⟩ v').1
 refine ⟨a1,a2,ownsRow_setCell_below hown' (a:=⟨m,1,none⟩) hm v',⟨?_,hsz,fun k o _ hc ho=>?_,fun b cs t hb hs ha=>?_⟩⟩
 ·exact ((Below.refl n0 W).grown hg (by have:=hv.lt;omega) (fun b e=>by have:=(hrow.lt b e).1;omega)).setCell (p:=⟨m,1,none⟩) hn0 _
 ·have hkl:=(Array.getElem?_eq_some_iff.1 ho).1
  rw [blk k hkl (fun e=>?_) (fun e=>?_),ho]
  ·subst e
   have hv':W.heap[k]? = some (.cells #[.pointer (some ⟨k,0,none⟩),v] 65):=hv
   rw [ho] at hv'
   cases hv'
   cases hc
  ·rcases rowY_block hrow with e' | ⟨g',cur,e',_,hgb⟩
   ·rw [e'] at e;cases e
   ·rw [e'] at e
    cases e
    rw [ho] at hgb
    cases hgb
    cases hc
 ·obtain ⟨p,u,hu1,hu2⟩:=hs
  have huv:u=v:=by
   have h1:W.heap[m]? = some (.cells #[p,u] 65):=hu1
   have h2:W.heap[m]? = some (.cells #[.pointer (some ⟨m,0,none⟩),v] 65):=hv
   rw [h1] at h2
   simp at h2
   exact h2.2
  subst huv
  have hbm:b≠m:=by rcases hb with h | h <;> omega
  refine ⟨(blk b ha.lt hbm hu2).trans ha,_,v',a2,?_⟩
  rcases hap with e | ⟨g',e,hle⟩
  ·rw [e];exact hu2
  ·rw [e]
   intro h
   have:=ha.lt
   simp at h
   omega
theorem rowY_slice {W:World} {B n:Nat} {v:Value} {xs:List Value} (h:W.ownsRow B 5 1 v n xs):∃ so c,v = .slice so n c:=by
 rcases h.2 with ⟨rfl,rfl⟩ | ⟨g,cap,cur,rfl,_⟩
 ·exact ⟨_,_,rfl⟩
 ·exact ⟨_,_,rfl⟩
theorem append_str {w:World} {base n:Nat} {ty:TypeId} {v:Value} {xs:List Value} (hown:w.ownsRow base 5 1 v n xs) (s:ByteArray) (hn:n+s.size≤140737488355328) (hbase:base≤w.heap.size) :
  ∃ v' w',(Builtin.append_ #[63,9] ty #[v,.string s]).run Tryz.prog w = .ok v' w'∧w'.ownsRow base 5 1 v' (n+s.size) (xs++Lib.strCells s)∧w.grownBy w' v.ownBlock∧(v'.ownBlock=v.ownBlock∨∃ g,v'.ownBlock=some g∧w.heap.size≤g):=by
 obtain ⟨i0,hi,hz0,hz1,hz2⟩:=info_parts infoBy
 have hm:n+s.size≤maxLen:=by unfold maxLen;omega
 obtain ⟨v',w',hr,r1,r2,-⟩:=Lib.run_append_own_string (P:=Tryz.prog) w base 63 9 ty 5 i0 Tryz.underlying63 Tryz.underlying9 hi hz0 hz1 hz2 v n xs hown s hm (by omega) hbase
 refine ⟨v',w',hr,r1,r2,?_⟩
 have new:∀ {v'':Value} {w'':World} {k:Nat} {ys:List Value},w''.ownsRow w.heap.size 5 1 v'' k ys→v'=v''→v'.ownBlock=none∨∃ g,v'.ownBlock=some g∧w.heap.size≤g:=by
  rintro v'' w'' k ys ⟨-,⟨rfl,-⟩ | ⟨g,cap,cur,rfl,hg,-⟩⟩ rfl
  ·exact .inl rfl
  ·exact .inr ⟨g,rfl,hg⟩
 rcases hown.2 with ⟨rfl,rfl⟩ | ⟨g,cap,cur,rfl,hb,hg,hnc,hcm,hcs,htk⟩
 ·obtain ⟨v'',w'',hr2,s1,-,-⟩:=Lib.run_append_own_string (P:=Tryz.prog) w w.heap.size 63 9 ty 5 i0 Tryz.underlying63 Tryz.underlying9 hi hz0 hz1 hz2 (.slice none 0 0) 0 [] (World.ownsRow_nil w _ _ _) s hm (by omega) (Nat.le_refl _)
  rw [hr] at hr2
  obtain ⟨rfl,rfl⟩:v'=v''∧w'=w'':=by simpa using hr2
  exact new s1 rfl
 ·by_cases hgr:n+s.size≤cap
  ·have hr2:=Lib.run_append_room_string (P:=Tryz.prog) w 63 9 ty 5 i0 Tryz.underlying63 Tryz.underlying9 hi hz1 g n cap cur hg s hgr (by omega)
   rw [hr] at hr2
   obtain ⟨rfl,-⟩:v'=_∧w'=_:=by simpa using hr2
   exact .inl rfl
  ·have hr2:=Lib.run_append_grow_string (P:=Tryz.prog) w 63 9 ty 5 i0 (.int .u8 0) Tryz.underlying63 Tryz.underlying9 hi hz0 ⟨g,0,none⟩ n cap xs (by rw [hz1];exact hown.1) (hown.cells (g:=g) rfl) s (by omega) (by omega) (by rw [hz2];have:=nextslicecap_le (need:=n+s.size) (old:=cap) (by omega);omega)
   rw [hr] at hr2
   obtain ⟨rfl,-⟩:v'=_∧w'=_:=by simpa using hr2
   exact .inr ⟨_,rfl,Nat.le_refl _⟩
theorem wpList_append_str {ops:Array Oper} {rest:List Oper} {o:Oper} {a:Act} {w:World} {Q:Exit→Act→World→Prop} (hgd:o.guard=none) (sl x:Operand)
  (ho:o.op = .call { callee:=.builtin .append,args:=#[sl,x],argTypes:=#[63,9] }) (base:Nat) (v:Value) (n:Nat) (xs:List Value) (hs:a.eval sl=v) (hown:w.ownsRow base 5 1 v n xs) (s:ByteArray) (hx:a.eval x = .string s)
  (hn:n+s.size≤140737488355328) (hbase:base≤w.heap.size)
  (h:∀ v' w',w'.ownsRow base 5 1 v' (n+s.size) (xs++Lib.strCells s)→w.grownBy w' v.ownBlock→(v'.ownBlock=v.ownBlock∨∃ g,v'.ownBlock=some g∧w.heap.size≤g)→wpList Tryz.prog ops Q rest (a.put o.dst v') w'):wpList Tryz.prog ops Q (o :: rest) a w:=by
 refine wpList_plain hgd fun K hK=>?_
 obtain ⟨v',w',hr,h2,h3,h4⟩:=append_str (ty:=o.type) hown s hn hbase
 unfold Oper.wp execOp
 simp only [ho,resolve,invoke,builtin,Sem.run_bind,Sem.run_pure,Result.andThen_ok,List.map_toArray,List.map_cons,List.map_nil,hs,hx,hr]
 exact hK _ _ (h v' w' h2 h3 h4)
theorem HeldS.refl_set {m n0 Bh g:Nat} {W:World} {q:Value} (hn0:n0≤m) (hBh:m<Bh) (hgm:g≠m):HeldS (SafeB m) n0 Bh g W (W.setCell ⟨m,0,none⟩ q):=by
 refine ⟨(Below.refl n0 W).setCell (p:=⟨m,0,none⟩) hn0 _,(KeepsOthers.setCell W ⟨m,0,none⟩ q).1,fun k o hk hc ho=>(Below.heap_setCell W ⟨m,0,none⟩ q k (by show k≠m;omega)).trans ho,fun b cs t hb hs ha=>?_⟩
 have hbm:b≠m:=by rcases hb with h | h <;> omega
 obtain ⟨p',u,hu1,hu2⟩:=hs
 refine ⟨ha.other (p:=⟨m,0,none⟩) hbm q,q,u,?_,hu2⟩
 have:=hu1.set 0 q
 simpa using this
set_option maxRecDepth 100000 in
set_option maxHeartbeats 2000000 in
theorem bwrite_used (m B:Nat) (v:Value) (l:List UInt8) (s:ByteArray) (hm:m<B) (hn:l.length+s.size≤140737488355328) (w:World) (w0:World) (h:At w m #[.pointer (some ⟨m,0,none⟩),v] 65) (hrow:w.ownsRow B 5 1 v l.length (Lib.byteCells l)) (hB:B≤w.heap.size)
  (hck:Calls Tryz.prog 48 #[.pointer (some ⟨m,0,none⟩)] w0 fun e w'=>e = .returned (.tuple #[])∧w'=w) (hh:∀ n0 Bh g,n0≤m→m<Bh→g≠m→HeldS (SafeB m) n0 Bh g w0 w) :
  Calls Tryz.prog 28 #[.pointer (some ⟨m,0,none⟩),.string s] w0 fun e w'=>e = .returned (.tuple #[.int .i64 (s.size:Int),.nilIface])∧BdI w' m B (l++s.data.toList)∧∀ n0 Bh g,n0≤m→m<Bh→g≠m→HeldS (SafeB m) n0 Bh g w0 w':=by
 have hck':=hid hck
 have hh':=hid hh
 have c0:=h.cell 0
 have c1:=h.cell 1
 simp only [List.getElem?_toArray,List.getElem?_cons_zero,List.getElem?_cons_succ] at c0 c1
 have h':=hid h
 have hrow':=hid hrow
 clear hck h hrow hh
 go_enter Tryz.func28,Tryz.ntmps28
 go_wp2_with fail
 refine Calls.mono hck'.out ?_
 rintro e w1 ⟨rfl,hw1⟩
 obtain rfl:=hw1.symm
 go_wp2_with (at_builtin;refine wpList_append_str rfl _ _ rfl B v _ _ rfl hrow'.out s rfl hn hB ?_;intro v' w2 hown2 hg hap;obtain ⟨a1,a2,a3,-⟩:=bwrite_core (n0:=m) (Bh:=m+1) (g:=m+1) h'.out hrow'.out hm (Nat.le_refl _) (Nat.lt_succ_self _) (Nat.succ_ne_self _) hown2 hg hap;have a4:=fun n0 Bh g (e1:n0≤m) (e2:m<Bh) (e3:g≠m)=>(bwrite_core (n0:=n0) (Bh:=Bh) (g:=g) h'.out hrow'.out hm e1 e2 e3 hown2 hg hap).2.2.2;have d1:=a1.cell 1;have g1:=a1.frozen 1;have d0:=a1.cell 0;simp only [List.getElem?_toArray,List.getElem?_cons_zero,List.getElem?_cons_succ] at d1 d0;have b2:=hid a2;have b3:=hid a3;have b4:=hid a4;obtain ⟨so',c',rfl⟩:=rowY_slice hown2;clear a1 a2 a3 a4 hg hap hown2 c0 c1)
 refine bodyPost_ret (v:=.tuple #[.int .i64 (s.size:Int),.nilIface]) (by simp [results,Tryz.results28,go_sem]) rfl ?_
 refine ⟨rfl,⟨_,_,b2.out,.inr rfl,?_⟩,fun n0 Bh g e1 e2 e3=>(hh'.out n0 Bh g e1 e2 e3).trans (b4.out n0 Bh g e1 e2 e3)⟩
 have h3:=b3.out
 rw [Lib.strCells_eq,← Lib.byteCells_append] at h3
 rw [show (l++s.data.toList).length=l.length+s.size by rw [List.length_append,Array.length_toList];rfl]
 exact h3
theorem bwrite_calls (m B:Nat) (l:List UInt8) (s:ByteArray) (hm:m<B) (hn:l.length+s.size≤140737488355328) (w:World) (h:BdI w m B l) (hB:B≤w.heap.size) :
  Calls Tryz.prog 28 #[.pointer (some ⟨m,0,none⟩),.string s] w fun e w'=>e = .returned (.tuple #[.int .i64 (s.size:Int),.nilIface])∧BdI w' m B (l++s.data.toList)∧∀ n0 Bh g,n0≤m→m<Bh→g≠m→HeldS (SafeB m) n0 Bh g w w':=by
 obtain ⟨p,v,h1,rfl | rfl,h2⟩:=h
 ·have a1:At (w.setCell ⟨m,0,none⟩ (.pointer (some ⟨m,0,none⟩))) m #[.pointer (some ⟨m,0,none⟩),v] 65:=by have:=h1.set 0 (.pointer (some ⟨m,0,none⟩));simpa using this
  exact bwrite_used m B v l s hm hn _ w a1 (ownsRow_setCell_below h2 (a:=⟨m,0,none⟩) hm _) (Nat.le_trans hB (KeepsOthers.setCell w ⟨m,0,none⟩ (.pointer (some ⟨m,0,none⟩))).1) (bcheck_fresh m v w h1) (fun _ _ _ e1 e2 e3=>HeldS.refl_set e1 e2 e3)
 ·exact bwrite_used m B v l s hm hn w w h1 h2 hB (bcheck_used m v w h1) (fun _ _ _ _ _ _=>⟨Below.refl _ _,Nat.le_refl _,fun _ _ _ _ h=>h,fun _ _ _ _ hs ha=>⟨ha,hs⟩⟩)
theorem freeze_other (w:World) (p:Addr) (n D:Nat) (h:D≠p.block):(w.freeze p n).heap[D]? = w.heap[D]?:=by
 unfold World.freeze
 split
 ·rfl
 ·simp [Array.getElem?_modify,Ne.symm h]
set_option maxRecDepth 100000 in
set_option maxHeartbeats 2000000 in
theorem bstring_nil (m n0:Nat) (p:Value) (w:World) (h:At w m #[p,.slice none 0 0] 65) :
  Calls Tryz.prog 31 #[.pointer (some ⟨m,0,none⟩)] w fun e w'=>e = .returned (.string ⟨#[]⟩)∧Below n0 w w'∧∀ (D:Nat) (o:Obj),o.isCells=false→w.heap[D]? = some o→w'.heap[D]? = some o:=by
 have hUS:=fun (W:World) (q:Option Addr)=>Lib.run_unsafeString_none (P:=Tryz.prog) W 90 3 9 q
 have c1:w.cell? ⟨m,1,none⟩=some (.slice none 0 0):=h.cell 1
 have c1':w.drew.cell? ⟨m,1,none⟩=some (.slice none 0 0):=c1
 have hSD:(Builtin.unsafeSliceData_ #[63] 90 #[.slice none 0 0]).run Tryz.prog w.drew = .ok (.pointer none) w.drew:=rfl
 go_enter Tryz.func31,Tryz.ntmps31
 go_wp2
 go_region
 all_goals (go_wp2;go_ret;exact ⟨rfl,Below.drew (Below.refl n0 w),fun _ _ _ h=>h⟩)
set_option maxRecDepth 100000 in
set_option maxHeartbeats 2000000 in
theorem bstring_room (m n0 g cap:Nat) (p:Value) (hc0:cap≠0) (w:World) (h:At w m #[p,.slice (some ⟨g,0,none⟩) 0 cap] 65) :
  Calls Tryz.prog 31 #[.pointer (some ⟨m,0,none⟩)] w fun e w'=>e = .returned (.string ⟨#[]⟩)∧Below n0 w w'∧∀ (D:Nat) (o:Obj),o.isCells=false→w.heap[D]? = some o→w'.heap[D]? = some o:=by
 have hUS:=fun (W:World) (q:Option Addr)=>Lib.run_unsafeString_none (P:=Tryz.prog) W 90 3 9 q
 have c1:w.cell? ⟨m,1,none⟩=some (.slice (some ⟨g,0,none⟩) 0 cap):=h.cell 1
 have c1':w.drew.cell? ⟨m,1,none⟩=some (.slice (some ⟨g,0,none⟩) 0 cap):=c1
 have hSD:(Builtin.unsafeSliceData_ #[63] 90 #[.slice (some ⟨g,0,none⟩) 0 cap]).run Tryz.prog w.drew = .ok (.pointer (some ⟨g,0,none⟩)) w.drew:=Lib.run_unsafeSliceData_row _ _ _ _ _ _ hc0
 clear hc0
 go_enter Tryz.func31,Tryz.ntmps31
 go_wp2
 go_region
 all_goals (go_wp2;go_ret;exact ⟨rfl,Below.drew (Below.refl n0 w),fun _ _ _ h=>h⟩)
set_option maxRecDepth 100000 in
set_option maxHeartbeats 2000000 in
theorem bstring_noroom (m n0 g:Nat) (p:Value) (cur:Array Value) (w:World) (hB:n0≤w.heap.size) (h:At w m #[p,.slice (some ⟨g,0,none⟩) 0 0] 65) (hg:w.heap[g]? = some (.cells cur 5 (0,0))) :
  Calls Tryz.prog 31 #[.pointer (some ⟨m,0,none⟩)] w fun e w'=>e = .returned (.string ⟨#[]⟩)∧Below n0 w w'∧∀ (D:Nat) (o:Obj),o.isCells=false→w.heap[D]? = some o→w'.heap[D]? = some o:=by
 have hUS:=fun (W:World) (q:Option Addr)=>Lib.run_unsafeString_none (P:=Tryz.prog) W 90 3 9 q
 have hlt:=h.lt
 have c1:w.cell? ⟨m,1,none⟩=some (.slice (some ⟨g,0,none⟩) 0 0):=h.cell 1
 have c1':w.drew.cell? ⟨m,1,none⟩=some (.slice (some ⟨g,0,none⟩) 0 0):=c1
 have hSD:(Builtin.unsafeSliceData_ #[63] 90 #[.slice (some ⟨g,0,none⟩) 0 0]).run Tryz.prog w.drew = .ok (.pointer (some ⟨w.drew.heap.size,0,none⟩)) (w.drew.alloc (.view ⟨g,0,none⟩ 5)) :=
  Lib.run_unsafeSliceData_zero w.drew _ _ 5 Tryz.underlying90 ⟨g,0,none⟩ 0 (5,cur.size) (by have hg':w.drew.heap[g]? = some (.cells cur 5 (0,0)):=hg;simp [World.shape?,hg'])
 have c2:(w.drew.alloc (.view ⟨g,0,none⟩ 5)).cell? ⟨m,1,none⟩=some (.slice (some ⟨g,0,none⟩) 0 0):=(h.drew.alloc (.view ⟨g,0,none⟩ 5)).cell 1
 have c3:(w.alloc (.view ⟨g,0,none⟩ 5)).drew.cell? ⟨m,1,none⟩=some (.slice (some ⟨g,0,none⟩) 0 0):=c2
 clear h hg
 go_enter Tryz.func31,Tryz.ntmps31
 go_wp2
 go_region
 all_goals (go_wp2;go_ret;exact ⟨rfl,(Below.drew (Below.refl n0 w)).alloc hB _,fun D o _ h=>(Below.heap_alloc w.drew _ D (Array.getElem?_eq_some_iff.1 h).1).trans h⟩)
set_option maxRecDepth 100000 in
set_option maxHeartbeats 2000000 in
theorem bstring_some (m B n0:Nat) (p v:Value) (l:List UInt8) (h0:l≠[]) (w:World) (h:At w m #[p,v] 65) (hown:w.ownsRow B 5 1 v l.length (Lib.byteCells l)) (hn0:n0≤B) :
  Calls Tryz.prog 31 #[.pointer (some ⟨m,0,none⟩)] w fun e w'=>e = .returned (.string ⟨l.toArray⟩)∧Below n0 w w'∧∀ (D:Nat) (o:Obj),o.isCells=false→w.heap[D]? = some o→w'.heap[D]? = some o:=by
 have hl0:l.length≠0:=by simpa using h0
 obtain ⟨g,cap,cur,rfl,hbg,hg,hnc,hcm,hcs,htake⟩:∃ g cap cur,v = .slice (some ⟨g,0,none⟩) l.length cap∧B≤g∧w.heap[g]? = some (.cells cur 5 (0,0))∧l.length≤cap∧cap≤maxLen∧cur.size=cap*1∧cur.toList.take (l.length*1)=Lib.byteCells l:=by
  rcases hown.2 with ⟨_,hz⟩ | ⟨g,cap,cur,hv,r⟩
  ·exact absurd hz hl0
  ·exact ⟨g,cap,cur,hv,r⟩
 have c1:w.cell? ⟨m,1,none⟩=some (.slice (some ⟨g,0,none⟩) l.length cap):=h.cell 1
 have c1':w.drew.cell? ⟨m,1,none⟩=some (.slice (some ⟨g,0,none⟩) l.length cap):=c1
 have hSD:(Builtin.unsafeSliceData_ #[63] 90 #[.slice (some ⟨g,0,none⟩) l.length cap]).run Tryz.prog w.drew = .ok (.pointer (some ⟨g,0,none⟩)) w.drew:=Lib.run_unsafeSliceData_row _ _ _ _ _ _ (by omega)
 have hUS:(Builtin.unsafeString_ #[90,3] 9 #[.pointer (some ⟨g,0,none⟩),.int .i64 l.length]).run Tryz.prog w.drew = .ok (.string ⟨l.toArray⟩) (w.drew.freeze ⟨g,0,none⟩ l.length):=by
  refine Lib.run_unsafeString_row w.drew 90 3 9 5 Tryz.underlying90 cellsBy g cur.size (by have hg':w.drew.heap[g]? = some (.cells cur 5 (0,0)):=hg;simp [World.shape?,hg']) l h0 (by omega) (by unfold maxLen at hcm;omega) ?_
  intro j x hx
  exact hown.cells (g:=g) rfl j (.int .u8 x.toNat) (by simp [Lib.byteCells,hx])
 have hgn:n0≤g:=Nat.le_trans hn0 hbg
 have hg':=hg
 clear h hown hg hcs htake h0 hl0
 go_enter Tryz.func31,Tryz.ntmps31
 go_wp2
 go_region
 all_goals (go_wp2;go_ret;exact ⟨rfl,Lib.below_freeze (Below.drew (Below.refl n0 w)) (p:=⟨g,0,none⟩) hgn _,fun D o hc h=>(freeze_other w.drew ⟨g,0,none⟩ _ D (fun e=>by rw [show D=g from e] at h;rw [h] at hg';cases hg';cases hc)).trans h⟩)
theorem bstring_calls (m B n0:Nat) (l:List UInt8) (w:World) (h:BdI w m B l) (hn0:n0≤B) (hB:B≤w.heap.size) :
  Calls Tryz.prog 31 #[.pointer (some ⟨m,0,none⟩)] w fun e w'=>e = .returned (.string ⟨l.toArray⟩)∧Below n0 w w'∧∀ (D:Nat) (o:Obj),o.isCells=false→w.heap[D]? = some o→w'.heap[D]? = some o:=by
 obtain ⟨p,v,h1,-,hown⟩:=h
 cases l with
 | nil =>
  rcases hown.2 with ⟨rfl,_⟩ | ⟨g,cap,cur,rfl,hbg,hg,_,_,_,_⟩
  ·exact bstring_nil m n0 p w h1
  ·by_cases hc0:cap=0
   ·subst hc0
    exact bstring_noroom m n0 g p cur w (by omega) h1 hg
   ·exact bstring_room m n0 g cap p hc0 w h1
 | cons x r=>exact bstring_some m B n0 p v (x :: r) (by simp) w h1 hown hn0
end Go.Proofs.YtongedjlmohogaaGreatDoor
