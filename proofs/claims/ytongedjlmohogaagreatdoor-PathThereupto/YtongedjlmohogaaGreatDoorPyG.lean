import Derived.Test.YtongedjlmohogaaGreatDoorPyF
namespace Go.Proofs.YtongedjlmohogaaGreatDoor
open Go.RowKit Go.Shelf
theorem SeqTellR.good {G G':World→Prop} {n:Nat} {P:Program} {g:Nat} {lb:Array Value} {E:Nat→Nat→Nat→Array Value→World→Prop} {Kp:Nat→Nat→World→World→Prop} {N:Nat} {w:World} (h:SeqTellR G n P g lb E Kp N w) (hg:∀ A,G' A→G A):SeqTellR G' n P g lb E Kp N w :=
 fun l J Jx W hb hJ hJx hG hY h0=>h l J Jx W hb hJ hJx (fun r A hA=>hg A (hG r A hA)) hY h0
def StsOn (S:Nat→Prop) (w:World) (ao:Option Addr) (ss:List Stp):Prop:=∀ (i:Nat) (s:Stp),ss[i]? = some s→∃ b off,ao=some ⟨b,off,none⟩∧S b∧b<w.heap.size∧w.cell? ⟨b,off+i,none⟩=some (ifV s)
theorem StsOn.kept {S:Nat→Prop} {w w':World} {ao:Option Addr} {ss:List Stp} (h:StsOn S w ao ss) (hs:SameOn S w w'):StsOn S w' ao ss:=fun i s hi=>by
 obtain ⟨b,off,h1,h2,h3,h4⟩:=h i s hi
 exact ⟨b,off,h1,h2,Nat.lt_of_lt_of_le h3 hs.1,(cell_same (hs.2 b h2 h3)).trans h4⟩
def okS (s:Stp):Prop:=s.kind=1∨s.kind=2∨s.kind=3
theorem okS.iface {s:Stp} (h:okS s):∃ tt vv,ifV s = .iface tt vv:=by
 unfold ifV
 rcases h with h | h | h <;> rw [h] <;> exact ⟨_,_,rfl⟩
theorem taken_seq (S:Nat→Prop) (nn:Nat) (s:Stp) (hs:okS s) (k:Int) (b:Bool) (rr tx:ByteArray) (ks:List ByteArray) (vs:List Vt) (hNM:k=6→ks.length=vs.length) (ko:Option Addr) (kc:Nat) (vo:Option Addr) (vc:Nat) (w:World)
  (hV:ValOn S w (.mk k b rr tx ks vs) (.agg #[.int .i64 k,.bool b,.string rr,.string tx,.slice ko ks.length kc,.slice vo vs.length vc])) :
  Calls Tryz.prog 76 #[.agg #[.int .i64 k,.bool b,.string rr,.string tx,.slice ko ks.length kc,.slice vo vs.length vc],ifV s] w fun e w'=>∃ gf Bv Bx,e = .returned (.func (.func gf) #[] #[.pointer (some ⟨Bv,0,none⟩),.pointer (some ⟨Bx,0,none⟩)]) ∧
   (w.heap.size≤Bv∧w.heap.size≤Bx∧Bv<w'.heap.size∧Bx<w'.heap.size)∧(∀ args u,(callFunc gf args).run Tryz.prog u = .ok (.enter gf args) u) ∧
   SeqTellR GdP nn Tryz.prog gf #[.pointer (some ⟨Bv,0,none⟩),.pointer (some ⟨Bx,0,none⟩)] (KidE S (tkL s (.mk k b rr tx ks vs))) (KpC (fun c=>S c∨c=Bv∨c=Bx)) (tkL s (.mk k b rr tx ks vs)).length w'∧Below w.heap.size w w':=by
 obtain ⟨tt,vv,he⟩:=hs.iface
 by_cases h6:k=6
 ·subst h6
  rw [he]
  refine (taken_obj b rr tx ko ks.length kc vo vs.length vc tt vv w).mono ?_
  rintro e w' ⟨rfl,hA,hX,hb⟩
  rw [← he] at hX
  refine ⟨113,_,_,rfl,⟨by omega,by omega,hA.lt,hX.lt⟩,enters_of Tryz.func113 (by kernel_rfl) rfl,?_,hb⟩
  exact (members1_tell _ S (fun c h=>.inl h) nn s 6 b rr tx ks vs (hNM rfl) ko kc vo vc _ _ (.inr (.inl rfl)) (.inr (.inr rfl)) w' hA hX (hV.keptB hb)).good (fun _ _=>trivial)
 ·rw [he]
  refine (taken_arr k (beq_eq_false_iff_ne.2 h6) b rr tx ko ks.length kc vo vs.length vc tt vv w).mono ?_
  rintro e w' ⟨rfl,hA,hX,hb⟩
  rw [← he] at hX
  refine ⟨114,_,_,rfl,⟨by omega,by omega,hA.lt,hX.lt⟩,enters_of Tryz.func114 (by kernel_rfl) rfl,?_,hb⟩
  have hk:tkL s (.mk k b rr tx ks vs)=elT s vs vs.length:=by
   unfold tkL
   exact if_neg h6
  rw [hk]
  exact (elements1_tell _ S (fun c h=>.inl h) nn s k b rr tx ks vs ko kc vo vc _ _ (.inr (.inl rfl)) (.inr (.inr rfl)) w' hA hX (hV.keptB hb)).good (fun _ h=>h.1)
end Go.Proofs.YtongedjlmohogaaGreatDoor
