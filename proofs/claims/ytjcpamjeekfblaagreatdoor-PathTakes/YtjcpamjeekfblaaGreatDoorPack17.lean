/-
  Texts of mine that others lean on, one behind the other.
-/
import Derived.Test.YtjcpamjeekfblaaGreatDoorPack1
import Derived.Test.YtjcpamjeekfblaaGreatDoorPack16
import Derived.Lib.ItoaLen
import Derived.Test.YtjcpamjeekfblaaGreatDoorPack12
import Derived.Below
namespace Go.Proofs.YtjcpamjeekfblaaGreatDoor
open Go.RowKit Go.Shelf
theorem wrS22_len (s:ByteArray):(wrS s).1.size≤6*s.size:=by
 unfold wrS
 split
 ·exact Nat.zero_le _
 ·have h:=wrI_len s s.size
  unfold wrI at h
  rw [show (byts s).take s.size=byts s by rw [← byts_length s];exact List.take_length] at h
  exact h
def IsWr (s:Stp) (T:ByteArray):Prop :=
 (s.kind=1∧∃ n,IsWd s.name n∧(((0<n∧n=s.name.size)∧T=⟨#[46]⟩++s.name)∨(¬ (0<n∧n=s.name.size)∧T=(⟨#[91,34]⟩++(wrS s.name).1)++⟨#[34,93]⟩))) ∨
 (s.kind=2∧T=(⟨#[91]⟩++⟨(Lib.itoa s.place).toArray⟩)++⟨#[93]⟩)∨((s.kind≠1∧s.kind≠2)∧T=⟨#[46,42]⟩)
set_option maxRecDepth 10000 in
set_option maxHeartbeats 8000000 in
theorem written22_calls (s:Stp) (hs:s.name.size≤4294967296) (hp:-9223372036854775808≤s.place∧s.place≤9223372036854775807) (w:World) (hPw:Hid (PowT w)):Calls Tryz.prog 29 #[ifV s] w fun e w'=>(∃ T,e = .returned (.string T)∧IsWr s T)∧Below w.heap.size w w':=by
 obtain ⟨k,nm,pl⟩:=s
 dsimp only at hs hp
 by_cases h1:k=1
 ·subst h1
  have a1:=asB_B nm
  obtain ⟨n,hn⟩:=wd_ex nm
  have hn':=hid hn
  have hle:=hn.1
  have hw:=hid (fun u=>word22_calls nm (by omega) n hn' u)
  show Calls Tryz.prog 29 #[.iface 85 (.string nm)] w _
  by_cases hc:0<n∧n=nm.size
  ·obtain ⟨h0,hz⟩:=hc
   have hc':=hid (And.intro h0 hz)
   have h0i:(0:Int)<(n:Int):=by omega
   have hzi:((n:Int) == (nm.size:Int))=true:=by simp [hz]
   clear hn hle hz
   go_enter Tryz.func29,Tryz.ntmps29
   go_wp2_with fail
   refine Calls.mono (hw.out _) ?_
   rintro e w1 ⟨rfl,b1⟩
   have B1:=hid b1
   clear b1 hw
   go_wp2_with fail
   go_ret
   exact ⟨⟨_,rfl,.inl ⟨rfl,n,hn'.out,.inl ⟨hc'.out,rfl⟩⟩⟩,B1.out⟩
  ·have hc':=hid hc
   obtain ⟨T,E,hU⟩:∃ T E,wrS nm=(T,E):=⟨_,_,rfl⟩
   have hU':=hid hU
   have he:=hid (fun u=>es_calls nm hs T E hU' u trivial)
   have hT6:T.size≤6*nm.size:=by have:=wrS22_len nm;rw [hU] at this;exact this
   have q1:¬ 9223372036854775807<2+T.size:=by omega
   have q2:¬ 9223372036854775807<2+T.size+2:=by omega
   clear hn hU hT6
   by_cases h0:0<n
   ·have h0i:(0:Int)<(n:Int):=by omega
    have hzi:((n:Int) == (nm.size:Int))=false:=beq_eq_false_iff_ne.2 (by omega)
    clear hc hle
    go_enter Tryz.func29,Tryz.ntmps29
    go_wp2_with fail
    refine Calls.mono (hw.out _) ?_
    rintro e w1 ⟨rfl,b1⟩
    have B1:=hid b1
    clear b1 hw
    go_wp2_with fail
    refine Calls.mono (he.out _) ?_
    rintro e w2 ⟨rfl,b2⟩
    have B2:=hid (B1.out.trans (b2.mono B1.out.size))
    clear b2 he
    go_wp2_with fail
    go_ret
    exact ⟨⟨_,rfl,.inl ⟨rfl,n,hn'.out,.inr ⟨hc'.out,by rw [hU'.out]⟩⟩⟩,B2.out⟩
   ·have h0i:decide ((0:Int)<(n:Int))=false:=decide_eq_false (by omega)
    have h00:n=0:=by omega
    clear hc hle h0
    go_enter Tryz.func29,Tryz.ntmps29
    go_wp2_with fail
    refine Calls.mono (hw.out _) ?_
    rintro e w1 ⟨rfl,b1⟩
    have B1:=hid b1
    clear b1 hw
    go_wp2_with fail
    refine Calls.mono (he.out _) ?_
    rintro e w2 ⟨rfl,b2⟩
    have B2:=hid (B1.out.trans (b2.mono B1.out.size))
    clear b2 he
    go_wp2_with fail
    go_ret
    exact ⟨⟨_,rfl,.inl ⟨rfl,n,hn'.out,.inr ⟨hc'.out,by rw [hU'.out]⟩⟩⟩,B2.out⟩
 ·by_cases h2:k=2
  ·subst h2
   have a1:=asP_B pl
   have a2:=asP_P pl
   have hi:=hid (fun u (h:PowT u)=>itoa_calls pl hp.1 hp.2 u h)
   have hil:=Lib.itoa_length_le pl hp.1 hp.2
   generalize hI:Lib.itoa pl=I at hi hil
   have hI':=hid hI
   have hs2:(⟨I.toArray⟩:ByteArray).size≤21:=by show I.toArray.size≤21;simpa using hil
   generalize hIT:(⟨I.toArray⟩:ByteArray)=T at hi hs2
   have hIT':=hid hIT
   have q1:¬ 9223372036854775807<1+T.size:=by omega
   have q2:¬ 9223372036854775807<1+T.size+1:=by omega
   clear hI hIT hil hs2
   show Calls Tryz.prog 29 #[.iface 87 (.int .i64 pl)] w _
   clear hp h1
   go_enter Tryz.func29,Tryz.ntmps29
   go_wp2_with fail
   refine Calls.mono (hi.out _ hPw.out) ?_
   rintro e w1 ⟨rfl,b1⟩
   have B1:=hid b1
   clear b1 hi
   go_wp2_with fail
   go_ret
   exact ⟨⟨_,rfl,.inr (.inl ⟨rfl,by rw [hI'.out,hIT'.out]⟩)⟩,B1.out⟩
  ·have hk:=hid (And.intro h1 h2)
   by_cases h3:k=3
   ·subst h3
    have a1:=asE_B
    have a2:=asE_P
    show Calls Tryz.prog 29 #[.iface 89 (.agg #[])] w _
    clear h1 h2
    go_enter Tryz.func29,Tryz.ntmps29
    go_wp2_with fail
    go_ret
    exact ⟨⟨_,rfl,.inr (.inr ⟨hk.out,rfl⟩)⟩,by exact bw⟩
   ·have a1:=asN_B
    have a2:=asN_P
    have e:ifV ⟨k,nm,pl⟩ = .nilIface:=by unfold ifV;rw [if_neg h1,if_neg h2,if_neg h3]
    rw [e]
    clear e h1 h2 h3
    go_enter Tryz.func29,Tryz.ntmps29
    go_wp2_with fail
    go_ret
    exact ⟨⟨_,rfl,.inr (.inr ⟨hk.out,rfl⟩)⟩,by exact bw⟩
end Go.Proofs.YtjcpamjeekfblaaGreatDoor

namespace Go.Proofs.YtjcpamjeekfblaaGreatDoor
open Go.RowKit Go.Shelf
inductive Wrs:List Stp→List UInt8→Prop
 | nil:Wrs [] []
 | snoc {p:List Stp} {l:List UInt8} {s:Stp} {T:ByteArray} (h:Wrs p l) (hT:IsWr s T):Wrs (p++[s]) (l++T.data.toList)
theorem IsWr.len {s:Stp} {T:ByteArray} (h:IsWr s T) (hs:s.name.size≤1048576) (hp:-9223372036854775808≤s.place∧s.place≤9223372036854775807):T.size≤6291500:=by
 rcases h with ⟨-,n,-,⟨-,rfl⟩ | ⟨-,rfl⟩⟩ | ⟨-,rfl⟩ | ⟨-,rfl⟩
 ·rw [ByteArray.size_append]
  have:(⟨#[46]⟩:ByteArray).size=1:=rfl
  omega
 ·rw [ByteArray.size_append,ByteArray.size_append]
  have h1:(⟨#[91,34]⟩:ByteArray).size=2:=rfl
  have h2:(⟨#[34,93]⟩:ByteArray).size=2:=rfl
  have:=wrS22_len s.name
  omega
 ·rw [ByteArray.size_append,ByteArray.size_append]
  have h1:(⟨#[91]⟩:ByteArray).size=1:=rfl
  have h2:(⟨#[93]⟩:ByteArray).size=1:=rfl
  have:=Lib.itoa_length_le s.place hp.1 hp.2
  have h3:(⟨(Lib.itoa s.place).toArray⟩:ByteArray).size≤21:=by show (Lib.itoa s.place).toArray.size≤21;simpa using this
  omega
 ·decide
set_option maxRecDepth 10000 in
set_option maxHeartbeats 8000000 in
theorem print22_calls (ss:List Stp) (ao:Option Addr) (N cap:Nat) (hN:Hid (ss.length=N)) (hNi:N≤1048576) (hf:ss.all fmS=true) (hnm:Hid (∀ s ∈ ss,s.name.size≤1048576∧(-9223372036854775808≤s.place∧s.place≤9223372036854775807))) (w:World) (hk:Hid (StepsAt w ao ss)) (hT:Hid (TabU w)) (hPw:Hid (PowT w)) :
  Calls Tryz.prog 13 #[.slice ao N cap] w fun e w'=>(∃ l,e = .returned (.tuple #[.string ⟨(36 :: l).toArray⟩,.int .i64 0])∧Wrs ss l)∧Below w.heap.size w w':=by
 have hNi':(N:Int)≤1048576:=by omega
 have hF:=hid (formedL_calls ss ao N cap hN (by omega) w hk hT)
 rw [hf] at hF
 clear hf
 go_enter Tryz.func13,Tryz.ntmps13
 go_wp2_with fail
 refine Calls.mono hF.out ?_
 rintro e w1 ⟨rfl,b1⟩
 obtain ⟨m,hm⟩:∃ m,Hid (w1.heap.size=m):=⟨_,hid rfl⟩
 have A0:=hid (At.new w1 #[.pointer none,.slice none 0 0] 65)
 have B0:=hid (b1.alloc b1.size (.cells #[.pointer none,.slice none 0 0] 65))
 have hml:Hid (w.heap.size≤m):=hid (by rw [← hm.out];exact b1.size)
 clear b1 hF
 go_wp2_with fail
 rw [hm.out] at A0 ⊢
 have D0:Hid (BdI (w1.alloc (.cells #[.pointer none,.slice none 0 0] 65)) m (m+1) []):=hid ⟨_,_,A0,.inl rfl,by simpa [Lib.byteCells] using World.ownsRow_nil _ (m+1) 5 1⟩
 have z0:Hid (m+1≤(w1.alloc (.cells #[.pointer none,.slice none 0 0] 65)).heap.size):=hid (by rw [World.size_alloc,hm.out];exact Nat.le_refl _)
 clear A0 hm
 generalize w1.alloc (.cells #[.pointer none,.slice none 0 0] 65)=W0 at B0 D0 z0 ⊢
 refine Calls.mono (bbyte_calls m (m+1) [] 36 36 rfl (Nat.lt_succ_self _) (by decide) _ D0.out z0.out) ?_
 rintro e w2 ⟨rfl,d2,b2⟩
 have D2:=hid (show BdI w2 m (m+1) (36 :: []) from d2)
 have B2:=hid (B0.out.trans (b2.mono hml.out))
 have z2:Hid (m+1≤w2.heap.size):=hid (Nat.le_trans z0.out b2.size)
 clear d2 b2 B0 D0 z0
 go_wp2
 go_loopw [13] (fun ii wr=>∃ (i:Nat) (l:List UInt8),i≤N∧ii = .int .i64 (i:Int)∧Hid (Wrs (ss.take i) l)∧Hid (l.length≤i*6291500)∧Hid (BdI wr m (m+1) (36 :: l))∧Hid (m+1≤wr.heap.size)∧Hid (Below w.heap.size w wr)) (fun ii _=>N-(intOf ii).toNat)
 case atStart=>exact ⟨0,[],Nat.zero_le _,rfl,hid (by rw [List.take_zero];exact .nil),hid (by simp),D2,z2,B2⟩
 case round =>
  obtain ⟨i,l,hi,rfl,hW,hL,hD,hz,hb⟩:=hrel
  clear D2 z2 B2
  by_cases hlt:i<N
  ·have hli:(i:Int)<(N:Int):=by omega
   obtain ⟨s,hs⟩:∃ s,Hid (ss[i]? = some s):=⟨_,List.getElem?_eq_getElem (by rw [hN.out];exact hlt)⟩
   have hk2:=hk.out.kept hb.out
   obtain ⟨g,o,rfl,hg,hrg⟩:=steps_at hk2 hs.out
   have htk:=hid (show ss.take (i+1)=ss.take i++[s] by rw [List.take_add_one,hs.out];simp)
   obtain ⟨hn1,hn2⟩:=hnm.out s (List.mem_of_getElem? hs.out)
   have hof:=hid (fun u=>of22_calls s u)
   have hwr:=hid (fun u h=>written22_calls s (by omega) hn2 u h)
   have hlen:=hid (fun T (h:IsWr s T)=>h.len hn1 hn2)
   have hlt':=hid (show i+1≤N by omega)
   have hll:=hid (show l.length≤6600000000000 by have:=hL.out;omega)
   obtain ⟨k,nm,pl⟩:=s
   have hrg':=hid hrg
   have A1:=hid (At.new wr #[.int .i64 k,.string nm,.int .i64 pl] 34)
   have B1:=hid (show Below w.heap.size w (wr.alloc (.cells #[.int .i64 k,.string nm,.int .i64 pl] 34)) from hb.out.alloc hb.out.size _)
   have D1:=hid (hD.out.kept ((Below.refl _ wr).alloc (Nat.le_refl _) (.cells #[.int .i64 k,.string nm,.int .i64 pl] 34)))
   have z1':Hid (m+1≤(wr.alloc (.cells #[.int .i64 k,.string nm,.int .i64 pl] 34)).heap.size):=hid (by rw [World.size_alloc];have:=hz.out;omega)
   have z1:(Tryz.prog.info? 34).map (·.size)=some ([.int .i64 k,.string nm,.int .i64 pl]:List Value).length:=sizeStp
   obtain ⟨q,hq⟩:∃ q,wr.heap.size=q:=⟨_,rfl⟩
   rw [hq] at A1
   obtain ⟨W1,hW1⟩:∃ W,wr.alloc (.cells #[.int .i64 k,.string nm,.int .i64 pl] 34)=W:=⟨_,rfl⟩
   rw [hW1] at A1 B1 D1 z1'
   have c0:=A1.out.cell 0
   have c1:=A1.out.cell 1
   have c2:=A1.out.cell 2
   simp only [List.getElem?_toArray,List.getElem?_cons_zero,List.getElem?_cons_succ] at c0 c1 c2
   dsimp only at hof
   clear hs hk2 hg hrg hb hD hz hn1 hn2
   go_wp2_with (first | refine wpList_load_want 34 _ g (o+i*3) [.int .i64 k,.string nm,.int .i64 pl] _ hrg'.out Tryz.underlying34 z1 rfl rfl rfl (by rfl) ?_ | fail)
   refine Calls.mono (hof.out _) ?_
   rintro e w3 ⟨rfl,b3⟩
   have B3:=hid (B1.out.trans (b3.mono B1.out.size))
   have D3:=hid (D1.out.kept b3)
   have z3:Hid (m+1≤w3.heap.size):=hid (Nat.le_trans z1'.out b3.size)
   clear b3 hof A1 B1 D1 z1' c0 c1 c2 hW1
   generalize hX:ifV ⟨k,nm,pl⟩=X at hwr ⊢
   clear hX
   go_wp2_with fail
   refine Calls.mono (hwr.out _ (hid (hPw.out.kept B3.out))) ?_
   rintro e w4 ⟨⟨T,rfl,hTw⟩,b4⟩
   have hTl:=hid (hlen.out T hTw)
   have hTw':=hid hTw
   have B4:=hid (B3.out.trans (b4.mono B3.out.size))
   have D4:=hid (D3.out.kept b4)
   have z4:Hid (m+1≤w4.heap.size):=hid (Nat.le_trans z3.out b4.size)
   clear b4 hwr B3 D3 z3 hlen hTw
   go_wp2_with fail
   refine Calls.mono (bstr_calls m (m+1) (36 :: l) T (Nat.lt_succ_self _) (by have:=hll.out;have:=hTl.out;rw [List.length_cons];omega) _ D4.out z4.out) ?_
   rintro e w5 ⟨rfl,d5,b5⟩
   have D5:=hid (show BdI w5 m (m+1) (36 :: (l++T.data.toList)) from d5)
   have B5:=hid (B4.out.trans (b5.mono hml.out))
   have z5:Hid (m+1≤w5.heap.size):=hid (Nat.le_trans z4.out b5.size)
   clear d5 b5 B4 D4 z4
   have hln:Hid ((l++T.data.toList).length≤(i+1)*6291500):=hid (by
    have h1:=hL.out
    have h2:=hTl.out
    have h3:T.data.toList.length=T.size:=by rw [Array.length_toList];rfl
    rw [List.length_append,h3]
    omega)
   go_wp2
   go_roundw
   case rel=>exact ⟨i+1,l++T.data.toList,hlt'.out,by simp,hid (by rw [htk.out];exact .snoc hW.out hTw'.out),hln,D5,z5,B5⟩
   case measure=>simp [intOf];have:=hlt'.out;omega
  ·obtain rfl:i=N:=by omega
   have hfin:=hid (show Wrs ss l by have:=hW.out;rwa [List.take_of_length_le (by rw [hN.out];exact Nat.le_refl _)] at this)
   go_wp2_with fail
   refine Calls.mono (bstring_calls m (m+1) w.heap.size (36 :: l) _ hD.out (by have:=hml.out;omega) hz.out) ?_
   rintro e w6 ⟨rfl,b6,-⟩
   have B6:=hid (hb.out.trans b6)
   clear b6
   go_wp2_with fail
   go_ret2
   exact ⟨⟨l,rfl,hfin.out⟩,B6.out⟩
end Go.Proofs.YtjcpamjeekfblaaGreatDoor

namespace Go.Proofs.YtjcpamjeekfblaaGreatDoor
open Go.RowKit Go.Shelf
theorem QE.uniq22 {s:ByteArray} {p e:Nat} (h:QE s p e):∀ {e':Nat},QE s p e'→e=e':=by
 induction h with
 | stop p h hq =>
  intro e' h'
  cases h' with
  | stop _ _=>rfl
  | esc _ _ _ hq' _=>omega
  | step _ _ _ h1 _ _=>exact absurd hq h1
 | esc p e h hq hn ih =>
  intro e' h'
  cases h' with
  | stop _ hq'=>omega
  | esc _ _ _ _ hn'=>exact ih hn'
  | step _ _ _ _ h2 _=>exact absurd hq h2
 | step p e h h1 h2 hn ih =>
  intro e' h'
  cases h' with
  | stop _ _ hq'=>exact absurd hq' h1
  | esc _ _ _ hq' _=>exact absurd hq' h2
  | step _ _ _ _ _ hn'=>exact ih hn'
theorem Txt.uniq22 {s:ByteArray} {i j j':Nat} {T T':ByteArray} (h:Txt s i j T) (h':Txt s i j' T'):T=T':=by
 obtain ⟨-,e,h1,-,h2⟩:=h
 obtain ⟨-,e',h1',-,h2'⟩:=h'
 obtain rfl:=h1.uniq22 h1'
 rw [← h2,← h2']
theorem pv_text34 {s:ByteArray} {i j:Nat} {t:Vt} (h:PV s i t j) (h34:byteAt s i=34):∃ T,Txt s i j T∧t.text=T:=by
 cases h with
 | text _ _ T h=>exact ⟨T,h,rfl⟩
 | null _ h _=>omega
 | yes _ h _=>omega
 | no _ h _=>omega
 | num _ _ _ hc _ _ _=>exact absurd h34 hc.2.2.1
 | arr _ _ _ _ _ h _ _ _ _ _ _=>omega
 | obj _ _ _ _ _ _ _ _ _ _ h _ _ _ _ _ _ _=>omega
theorem par_text34 {s:ByteArray} {t t':Vt} (h:IsPar s 1 t) (h':IsPar s 1 t') (h34:byteAt s 0=34):t.text=t'.text:=by
 have sk:∀ {i},IsSkip s 0 i→i=0:=fun {i} h=>by
  rcases Nat.eq_zero_or_pos i with e | e
  ·exact e
  ·have:=h.2.2.1 0 (Nat.le_refl _) e
   rw [h34] at this
   exact absurd this (by decide)
 rcases h with ⟨-,i,j,h1,h2⟩ | ⟨h,-⟩
 ·rcases h' with ⟨-,i',j',h1',h2'⟩ | ⟨h',-⟩
  ·obtain rfl:=sk h1
   obtain rfl:=sk h1'
   obtain ⟨T,a,b⟩:=pv_text34 h2 h34
   obtain ⟨T',a',b'⟩:=pv_text34 h2' h34
   rw [b,b',a.uniq22 a']
  ·exact absurd rfl h'
 ·exact absurd rfl h
theorem isEnd_uniq22 {s:ByteArray} {f n n' E E':Int} (h:IsEnd s f n E) (h':IsEnd s f n' E'):n=n'∧E=E':=by
 rcases h with ⟨h1,h2,h3⟩ | ⟨k,rfl,hk,h⟩ <;> rcases h' with ⟨g1,g2,g3⟩ | ⟨k',hf,hk',h'⟩
 ·exact ⟨by rw [h2,g2],by rw [h3,g3]⟩
 ·subst hf;omega
 ·omega
 ·obtain rfl:k=k':=by omega
  rcases h with ⟨i,a1,a2,a3,a4,a5,a6⟩ | ⟨a1,a2,a3⟩ <;> rcases h' with ⟨j,b1,b2,b3,b4,b5,b6⟩ | ⟨b1,b2,b3⟩
  ·rcases Nat.lt_trichotomy i j with h | h | h
   ·exact absurd ⟨a2,a3⟩ (b4 i h)
   ·subst h
    exact ⟨by rw [a5,b5],by rw [a6,b6]⟩
   ·exact absurd ⟨b2,b3⟩ (a4 j h)
  ·exact absurd ⟨a2,a3⟩ (b1 i a1)
  ·exact absurd ⟨b2,b3⟩ (a1 j b1)
  ·exact ⟨by rw [a2,b2],by rw [a3,b3]⟩
theorem QEnd.uniq {s:ByteArray} {a z z':Nat} (h:QEnd s a z) (h':QEnd s a z'):z=z':=by
 obtain ⟨n,E,h1,h⟩:=h
 obtain ⟨n',E',h1',h'⟩:=h'
 obtain ⟨rfl,rfl⟩:=isEnd_uniq22 h1 h1'
 rcases h with ⟨e,h⟩ | ⟨e,h⟩ <;> rcases h' with ⟨e',h'⟩ | ⟨e',h'⟩
 ·omega
 ·exact absurd e e'
 ·exact absurd e' e
 ·omega
theorem byteAt_sub {s:ByteArray} {a z:Nat} (h:a<z) (hz:z≤s.size):byteAt (s.extract a z) 0=lk s a:=by
 have h1:(s.extract a z).size=z-a:=by rw [ByteArray.size_extract];omega
 rw [← lk_byteAt,lk_at _ 0 (by omega),lk_at s a (by omega),ByteArray.getElem_extract]
 simp
theorem IsQt.uniq {s:ByteArray} {a e e':Nat} {o o':Option Stp} (h:IsQt s a o e) (h':IsQt s a o' e') (h34:hasB s a 34=true):o=o'∧e=e':=by
 have hl:=has_lt h34
 have h3:lk s a=34:=by
  unfold hasB at h34
  exact of_decide_eq_true (Bool.and_eq_true_iff.1 h34).2
 obtain ⟨z,hz,C,A,E,t,hc,ht,h⟩:=h
 obtain ⟨z',hz',C',A',E',t',hc',ht',h'⟩:=h'
 obtain rfl:=hz.uniq hz'
 obtain ⟨rfl,rfl,rfl⟩:=hc.uniq hc'
 have hb:=byteAt_sub (qend_gt hz hl) (qend_le hz)
 rw [h3] at hb
 rcases h with ⟨h0,rfl,rfl⟩ | ⟨h0,rfl,rfl⟩ <;> rcases h' with ⟨h0',rfl,rfl⟩ | ⟨h0',rfl,rfl⟩
 ·subst h0
  rw [par_text34 ht ht' hb]
  exact ⟨rfl,rfl⟩
 ·exact absurd h0 h0'
 ·exact absurd h0' h0
 ·exact ⟨rfl,rfl⟩
theorem IsBare.uniq {s:ByteArray} {a e e':Nat} {o o':Option Stp} (h:IsBare s a o e) (h':IsBare s a o' e'):o=o'∧e=e':=by
 rcases h with ⟨q,h⟩ | ⟨q,q2,h⟩ | ⟨q,q2,n,hn,rfl,rfl⟩ <;> rcases h' with ⟨r,h'⟩ | ⟨r,r2,h'⟩ | ⟨r,r2,n',hn',rfl,rfl⟩
 ·exact h.uniq h' q
 ·rw [q] at r;cases r
 ·rw [q] at r;cases r
 ·rw [q] at r;cases r
 ·have:=h.trans h'.symm
  exact Prod.mk.inj this
 ·rw [q2] at r2;cases r2
 ·rw [q] at r;cases r
 ·rw [q2] at r2;cases r2
 ·obtain rfl:=hn.uniq hn'
  exact ⟨rfl,rfl⟩
theorem IsBr.uniq {s:ByteArray} {a e e':Nat} {o o':Option Stp} (h:IsBr s a o e) (h':IsBr s a o' e'):o=o'∧e=e':=by
 obtain ⟨p,x,hb,h⟩:=h
 obtain ⟨p',x',hb',h'⟩:=h'
 obtain ⟨rfl,rfl⟩:=hb.uniq hb'
 rcases h with ⟨q,rfl,rfl⟩ | ⟨q,q2,rfl,rfl⟩ <;> rcases h' with ⟨r,rfl,rfl⟩ | ⟨r,r2,rfl,rfl⟩
 ·exact ⟨rfl,rfl⟩
 ·rcases q with q | q
  ·exact absurd q r2
  ·rw [q] at r;cases r
 ·rcases r with r | r
  ·exact absurd r q2
  ·rw [q] at r;cases r
 ·exact ⟨rfl,rfl⟩
theorem IsRead.uniq {s:ByteArray} {a e e':Nat} {o o':Option Stp} (h:IsRead s a o e) (h':IsRead s a o' e'):o=o'∧e=e':=by
 rcases h with ⟨q,n,hn,rfl,rfl⟩ | ⟨q,h⟩ | ⟨q,rfl,rfl⟩ <;> rcases h' with ⟨r,n',hn',rfl,rfl⟩ | ⟨r,h'⟩ | ⟨r,rfl,rfl⟩
 ·obtain rfl:=hn.uniq hn'
  exact ⟨rfl,rfl⟩
 ·omega
 ·exact absurd q r.1
 ·omega
 ·exact h.uniq h'
 ·exact absurd q r.2
 ·exact absurd r q.1
 ·exact absurd r q.2
 ·exact ⟨rfl,rfl⟩
theorem Rds.pre {s:ByteArray} {b:Nat} {q:List Stp} (h:Rds s b q):∀ {n:Nat},n<q.length→∃ a p x e,Rds s a p∧p.length=n∧a<s.size∧IsRead s a (some x) e:=by
 induction h with
 | nil=>intro n hn;simp at hn
 | snoc h ha hx ih =>
  rename_i a p x e
  intro n hn
  rw [List.length_append,List.length_singleton] at hn
  rcases Nat.lt_or_ge n p.length with h1 | h1
  ·exact ih h1
  ·exact ⟨a,p,x,e,h,by omega,ha,hx⟩
theorem Rds.same {s:ByteArray} {a:Nat} {p:List Stp} (h:Rds s a p):∀ {b:Nat} {q:List Stp},Rds s b q→p.length=q.length→a=b∧p=q:=by
 induction h with
 | nil =>
  intro b q h' hl
  cases h' with
  | nil=>exact ⟨rfl,rfl⟩
  | snoc _ _ _=>simp at hl
 | snoc h ha hx ih =>
  intro b q h' hl
  cases h' with
  | nil=>simp at hl
  | snoc h' ha' hx' =>
   obtain ⟨rfl,rfl⟩:=ih h' (by simpa using hl)
   obtain ⟨e1,rfl⟩:=hx.uniq hx'
   cases e1
   exact ⟨rfl,rfl⟩
theorem IsPp.uniq {s:ByteArray} {p p':List Stp} {E E':Int} {k k':Nat} (h:IsPp s p E k) (h':IsPp s p' E' k'):p=p'∧E=E'∧k=k':=by
 have stop:∀ {p a q k},Rds s s.size p→Rds s a q→a<s.size→IsRead s a none k→False:=fun {p a q k} hp hq ha hr=>by
  rcases Nat.lt_trichotomy p.length q.length with l | l | l
  ·obtain ⟨b,r,x,e,h1,h2,h3,-⟩:=hq.pre l
   obtain ⟨e1,-⟩:=hp.same h1 h2.symm
   omega
  ·obtain ⟨e1,-⟩:=hp.same hq l
   omega
  ·obtain ⟨b,r,x,e,h1,h2,h3,h4⟩:=hp.pre l
   obtain ⟨rfl,-⟩:=hq.same h1 h2.symm
   obtain ⟨e1,-⟩:=hr.uniq h4
   cases e1
 rcases h with ⟨q,rfl,rfl,rfl⟩ | ⟨q,⟨h,rfl,rfl⟩ | ⟨a,l,h,ha,hr,rfl,rfl⟩⟩ <;> rcases h' with ⟨r,rfl,rfl,rfl⟩ | ⟨r,⟨h',rfl,rfl⟩ | ⟨a',l',h',ha',hr',rfl,rfl⟩⟩
 ·exact ⟨rfl,rfl,rfl⟩
 ·exact absurd r q
 ·exact absurd r q
 ·exact absurd q r
 ·rcases Nat.lt_trichotomy p.length p'.length with l | l | l
  ·obtain ⟨b,x,y,e,h1,h2,h3,-⟩:=h'.pre l
   obtain ⟨e1,-⟩:=h.same h1 h2.symm
   omega
  ·exact ⟨(h.same h' l).2,rfl,rfl⟩
  ·obtain ⟨b,x,y,e,h1,h2,h3,-⟩:=h.pre l
   obtain ⟨e1,-⟩:=h'.same h1 h2.symm
   omega
 ·exact (stop h h' ha' hr').elim
 ·exact absurd q r
 ·exact (stop h' h ha hr).elim
 ·have hl:l.length=l'.length:=by
   rcases Nat.lt_trichotomy l.length l'.length with c | c | c
   ·obtain ⟨b,x,y,e,h1,h2,h3,h4⟩:=h'.pre c
    obtain ⟨rfl,-⟩:=h.same h1 h2.symm
    obtain ⟨e1,-⟩:=hr.uniq h4
    cases e1
   ·exact c
   ·obtain ⟨b,x,y,e,h1,h2,h3,h4⟩:=h.pre c
    obtain ⟨rfl,-⟩:=h'.same h1 h2.symm
    obtain ⟨e1,-⟩:=hr'.uniq h4
    cases e1
  obtain ⟨rfl,-⟩:=h.same h' hl
  exact ⟨rfl,rfl,(hr.uniq hr').2⟩
end Go.Proofs.YtjcpamjeekfblaaGreatDoor

namespace Go.Proofs.YtjcpamjeekfblaaGreatDoor
open Go.RowKit Go.Shelf
def pthW:ByteArray:=⟨#[36,46,97,91,49,93,46,42,91,34,99,32,100,34,93]⟩
def stpW:List Stp:=[⟨1,⟨#[97]⟩,0⟩,⟨2,⟨#[]⟩,1⟩,⟨3,⟨#[]⟩,0⟩,⟨1,⟨#[99,32,100]⟩,0⟩]
def cdW:ByteArray:=⟨#[34,99,32,100,34]⟩
theorem rdW1:IsRead pthW 1 (some ⟨1,⟨#[97]⟩,0⟩) 3:=by
 refine .inl ⟨by decide +kernel,1,⟨by decide +kernel,?_,fun _=>by decide +kernel⟩,?_,by decide +kernel⟩
 ·intro j hj
  obtain rfl:j=0:=by omega
  decide +kernel
 ·unfold bpF
  rw [if_pos (by decide),show pthW.extract (1+1) (1+1+1)=⟨#[97]⟩ by decide +kernel]
theorem rdW2:IsRead pthW 3 (some ⟨2,⟨#[]⟩,1⟩) 6:=by
 refine .inr (.inl ⟨by decide +kernel,_,5,.inr (.inr ⟨by decide +kernel,by decide +kernel,5,⟨by decide,by decide,?_,fun _=>by decide +kernel⟩,rfl,rfl⟩),.inr ⟨by decide +kernel,?_,?_,rfl⟩⟩)
 ·intro j h1 h2
  obtain rfl:j=5:=by omega
  decide +kernel
 ·unfold nmF
  rw [if_pos (by decide)]
  simp
 ·unfold nmF
  rw [if_pos (by decide),show plV (pthW.extract (3+1) 5)=1 by decide +kernel]
theorem rdW3:IsRead pthW 6 (some ⟨3,⟨#[]⟩,0⟩) 8:=by
 refine .inl ⟨by decide +kernel,0,⟨by decide +kernel,fun j hj=>by omega,fun _=>by decide +kernel⟩,?_,by decide +kernel⟩
 unfold bpF starF
 rw [if_neg (by decide),if_pos (by decide +kernel)]
theorem chkCd:IsChk cdW 1 1 5 0:=chk_validT (s:=cdW) _ (by decide) (by decide) (run_eqT (by decide +kernel)) (by decide +kernel) (by decide +kernel)
theorem parCd:IsPar cdW 1 (.mk 4 false ⟨#[]⟩ ⟨#[99,32,100]⟩ [] []) :=
 .inl ⟨rfl,0,5,skip_of (by decide) (by decide) (by decide) (by decide +kernel),.text 0 5 _ ⟨by decide +kernel,4,.step 1 4 (by decide) (by decide +kernel) (by decide +kernel) (.step 2 4 (by decide) (by decide +kernel) (by decide +kernel) (.step 3 4 (by decide) (by decide +kernel) (by decide +kernel) (.stop 4 (by decide) (by decide +kernel)))),rfl,by decide +kernel⟩⟩
theorem endW:QEnd pthW 9 14:=⟨13,0,.inr ⟨10,rfl,by decide,.inl ⟨3,by decide,by decide +kernel,by decide +kernel,by decide +kernel,rfl,rfl⟩⟩,.inl ⟨rfl,rfl⟩⟩
theorem rdW4:IsRead pthW 8 (some ⟨1,⟨#[99,32,100]⟩,0⟩) 15:=by
 refine .inr (.inl ⟨by decide +kernel,_,14,.inl ⟨by decide +kernel,14,endW,1,5,0,(.mk 4 false ⟨#[]⟩ ⟨#[99,32,100]⟩ [] []),?_,?_,.inl ⟨rfl,rfl,rfl⟩⟩,.inr ⟨by decide +kernel,by simp,rfl,rfl⟩⟩)
 ·rw [show pthW.extract (8+1) 14=cdW by decide +kernel]
  exact chkCd
 ·rw [show pthW.extract (8+1) 14=cdW by decide +kernel]
  exact parCd
theorem rdsW:Rds pthW 15 stpW :=
 .snoc (p:=[_,_,_]) (.snoc (p:=[_,_]) (.snoc (p:=[_]) (.snoc (p:=[]) .nil (by decide) rdW1) (by decide) rdW2) (by decide) rdW3) (by decide) rdW4
theorem ppW:IsPp pthW stpW 0 0:=.inr ⟨⟨by decide,by decide +kernel⟩,.inl ⟨rdsW,rfl,rfl⟩⟩
def pthF:ByteArray:=⟨#[36,46,97,32,98]⟩
theorem rdF1:IsRead pthF 1 (some ⟨1,⟨#[97]⟩,0⟩) 3:=by
 refine .inl ⟨by decide +kernel,1,⟨by decide +kernel,?_,fun _=>by decide +kernel⟩,?_,by decide +kernel⟩
 ·intro j hj
  obtain rfl:j=0:=by omega
  decide +kernel
 ·unfold bpF
  rw [if_pos (by decide),show pthF.extract (1+1) (1+1+1)=⟨#[97]⟩ by decide +kernel]
theorem ppF:IsPp pthF [] 220 3:=.inr ⟨⟨by decide,by decide +kernel⟩,.inr ⟨3,_,.snoc .nil (by decide) rdF1,by decide,.inr (.inr ⟨⟨by decide +kernel,by decide +kernel⟩,rfl,rfl⟩),rfl,rfl⟩⟩
theorem fmW4:stpW.all fmS=true:=by decide +kernel
end Go.Proofs.YtjcpamjeekfblaaGreatDoor

namespace Go.Proofs.YtjcpamjeekfblaaGreatDoor
open Go.RowKit Go.Shelf
theorem IsWr.uniq {s:Stp} {T T':ByteArray} (h:IsWr s T) (h':IsWr s T'):T=T':=by
 rcases h with ⟨k,n,hn,h⟩ | ⟨k,rfl⟩ | ⟨k,rfl⟩ <;> rcases h' with ⟨k',n',hn',h'⟩ | ⟨k',rfl⟩ | ⟨k',rfl⟩
 ·obtain rfl:=hn.uniq hn'
  rcases h with ⟨c,rfl⟩ | ⟨c,rfl⟩ <;> rcases h' with ⟨c',rfl⟩ | ⟨c',rfl⟩
  ·rfl
  ·exact absurd c c'
  ·exact absurd c' c
  ·rfl
 ·omega
 ·exact absurd k k'.1
 ·omega
 ·rfl
 ·exact absurd k k'.2
 ·exact absurd k' k.1
 ·exact absurd k' k.2
 ·rfl
theorem Wrs.uniq {p:List Stp} {l:List UInt8} (h:Wrs p l):∀ {q:List Stp} {l':List UInt8},Wrs q l'→p=q→l=l':=by
 induction h with
 | nil =>
  intro q l' h' e
  cases h' with
  | nil=>rfl
  | snoc _ _=>simp at e
 | snoc h hT ih =>
  intro q l' h' e
  cases h' with
  | nil=>simp at e
  | snoc h' hT' =>
   obtain ⟨e1,e2⟩:=List.append_inj' e rfl
   cases e2
   rw [ih h' e1,hT.uniq hT']
theorem wrsW:Wrs stpW [46,97,91,49,93,46,42,91,34,99,32,100,34,93]:=by
 have h1:IsWr ⟨1,⟨#[97]⟩,0⟩ ⟨#[46,97]⟩:=.inl ⟨rfl,1,⟨by decide,fun j hj=>by
  obtain rfl:j=0:=by omega
  decide +kernel,fun h=>absurd h (by decide)⟩,.inl ⟨⟨by decide,by decide⟩,by decide +kernel⟩⟩
 have h2:IsWr ⟨2,⟨#[]⟩,1⟩ ⟨#[91,49,93]⟩:=.inr (.inl ⟨rfl,by decide +kernel⟩)
 have h3:IsWr ⟨3,⟨#[]⟩,0⟩ ⟨#[46,42]⟩:=.inr (.inr ⟨⟨by decide,by decide⟩,rfl⟩)
 have h4:IsWr ⟨1,⟨#[99,32,100]⟩,0⟩ ⟨#[91,34,99,32,100,34,93]⟩:=.inl ⟨rfl,1,⟨by decide,fun j hj=>by
  obtain rfl:j=0:=by omega
  decide +kernel,fun _=>by decide +kernel⟩,.inr ⟨fun h=>absurd h.2 (by decide),by decide +kernel⟩⟩
 exact .snoc (p:=[_,_,_]) (.snoc (p:=[_,_]) (.snoc (p:=[_]) (.snoc (p:=[]) .nil h1) h2) h3) h4
set_option maxRecDepth 10000 in
theorem printW_calls (ao:Option Addr) (cap:Nat) (w:World) (hk:Hid (StepsAt w ao stpW)) (hT:Hid (TabU w)) (hPw:Hid (PowT w)) :
  Calls Tryz.prog 13 #[.slice ao 4 cap] w fun e w'=>e = .returned (.tuple #[.string pthW,.int .i64 0])∧Below w.heap.size w w':=by
 refine Calls.mono (print22_calls stpW ao 4 cap (hid rfl) (by decide) fmW4 (hid (by
  intro s hs
  simp only [stpW,List.mem_cons,List.not_mem_nil,or_false] at hs
  rcases hs with rfl | rfl | rfl | rfl <;> exact ⟨by decide,by decide,by decide⟩)) w hk hT hPw) ?_
 rintro e w' ⟨⟨l,rfl,h⟩,b⟩
 rw [h.uniq wrsW rfl]
 exact ⟨rfl,b⟩
end Go.Proofs.YtjcpamjeekfblaaGreatDoor

namespace Go.Proofs.YtjcpamjeekfblaaGreatDoor
def mnL:List UInt8→Option (List UInt8)
 | []=>some []
 | c :: t =>
  if c=126 then
   match t with
   | []=>none
   | d :: t'=>if d=48 then (mnL t').map (126 :: ·) else if d=49 then (mnL t').map (47 :: ·) else none
  else (mnL t).map (c :: ·)
def cuL:List UInt8→List (List UInt8)
 | []=>[[]]
 | c :: t=>if c=47 then [] :: cuL t else
  match cuL t with
  | a :: r=>(c :: a) :: r
  | []=>[[c]]
theorem cuL_ne:∀ l:List UInt8,∃ a r,cuL l=a :: r
 | []=>⟨_,_,rfl⟩
 | c :: t=>by
  obtain ⟨a,r,h⟩:=cuL_ne t
  unfold cuL
  by_cases hc:c=47
  ·exact ⟨_,_,if_pos hc⟩
  ·rw [if_neg hc,h];exact ⟨_,_,rfl⟩
theorem cuL_sl (t:List UInt8):cuL (47 :: t)=[] :: cuL t:=by rw [cuL,if_pos rfl]
theorem cuL_on {c:UInt8} (hc:c≠47) {t a:List UInt8} {r:List (List UInt8)} (h:cuL t=a :: r):cuL (c :: t)=(c :: a) :: r:=by rw [cuL,if_neg hc,h]
def mnAll:List (List UInt8)→Option (List (List UInt8))
 | []=>some []
 | a :: r=>match mnL a,mnAll r with
  | some x,some y=>some (x :: y)
  | _,_=>none
def ptrL:List UInt8→Option (List (List UInt8))
 | []=>some []
 | c :: t=>if c=47 then mnAll (cuL t) else none
theorem mnL_plain {c:UInt8} (hc:c≠126) (t:List UInt8):mnL (c :: t)=(mnL t).map (c :: ·):=by rw [mnL.eq_def];simp only [hc,if_false]
theorem mnL_none:mnL [126]=none:=by rw [mnL.eq_def];rfl
theorem mnL_til (d:UInt8) (t:List UInt8):mnL (126 :: d :: t)=if d=48 then (mnL t).map (126 :: ·) else if d=49 then (mnL t).map (47 :: ·) else none:=by rw [mnL.eq_def];rfl
def addN (out:List (List UInt8)) (c:UInt8):List (List UInt8):=out.dropLast++[out.getLastD []++[c]]
theorem addN_on (out:List (List UInt8)) (a:List UInt8) (c:UInt8):addN (out++[a]) c=out++[a++[c]]:=by simp [addN]
def rfL:List (List UInt8)→List UInt8→Option (List (List UInt8))
 | out,[]=>some out
 | out,c :: t =>
  if c=47 then rfL (out++[[]]) t
  else if c=126 then
   match t with
   | []=>none
   | d :: t'=>if d=48 then rfL (addN out 126) t' else if d=49 then rfL (addN out 47) t' else none
  else rfL (addN out c) t
theorem rfL_sl (out:List (List UInt8)) (t:List UInt8):rfL out (47 :: t)=rfL (out++[[]]) t:=by rw [rfL.eq_def];rfl
theorem rfL_plain {c:UInt8} (h1:c≠47) (h2:c≠126) (out:List (List UInt8)) (t:List UInt8):rfL out (c :: t)=rfL (addN out c) t:=by rw [rfL.eq_def];simp only [h1,h2,if_false]
theorem rfL_none (out:List (List UInt8)):rfL out [126]=none:=by rw [rfL.eq_def];rfl
theorem rfL_til (out:List (List UInt8)) (d:UInt8) (t:List UInt8):rfL out (126 :: d :: t)=if d=48 then rfL (addN out 126) t else if d=49 then rfL (addN out 47) t else none:=by rw [rfL.eq_def];rfl
def joinN (out:List (List UInt8)) (a:List UInt8):List (List UInt8)→List (List UInt8)
 | []=>out++[a]
 | x :: r=>out++(a++x) :: r
theorem rfL_on:∀ (n:Nat) (l:List UInt8),l.length≤n→∀ (out:List (List UInt8)) (a:List UInt8),rfL (out++[a]) l=(mnAll (cuL l)).map (joinN out a):=by
 intro n
 induction n with
 | zero =>
  intro l hl out a
  obtain rfl:l=[]:=List.length_eq_zero_iff.1 (by omega)
  rw [rfL]
  simp [cuL,mnAll,mnL,joinN]
 | succ n ih =>
  intro l hl out a
  cases l with
  | nil=>rw [rfL];simp [cuL,mnAll,mnL,joinN]
  | cons c t =>
   have ht:t.length≤n:=by simp at hl;omega
   by_cases hc:c=47
   ·subst hc
    rw [rfL_sl,ih t ht (out++[a]) [],cuL_sl]
    obtain ⟨x,r,hx⟩:=cuL_ne t
    rw [hx,show mnAll ([] :: x :: r)=(mnAll (x :: r)).map ([] :: ·) by
     rw [mnAll]
     rw [show mnL []=some [] from rfl]
     cases mnAll (x :: r) <;> rfl]
    cases hm:mnAll (x :: r) with
    | none=>rfl
    | some q =>
     cases q with
     | nil =>
      exfalso
      rw [mnAll] at hm
      cases h1:mnL x <;> cases h2:mnAll r <;> rw [h1,h2] at hm <;> simp at hm
     | cons y z=>simp [joinN]
   ·by_cases hc2:c=126
    ·subst hc2
     cases t with
     | nil =>
      rw [rfL_none,cuL_on (by decide) (show cuL []=[] :: [] from rfl),mnAll,mnL_none]
      rfl
     | cons d t =>
      have ht':t.length≤n:=by simp at ht;omega
      rw [rfL_til]
      obtain ⟨x,r,hx⟩:=cuL_ne t
      by_cases h1:d=48
      ·subst h1
       rw [if_pos rfl,addN_on,ih t ht',cuL_on (by decide) (cuL_on (by decide) hx),hx,mnAll,mnAll,mnL_til,if_pos rfl]
       cases mnL x <;> cases mnAll r <;> simp [joinN]
      ·by_cases h2:d=49
       ·subst h2
        rw [if_neg h1,if_pos rfl,addN_on,ih t ht',cuL_on (by decide) (cuL_on (by decide) hx),hx,mnAll,mnAll,mnL_til,if_neg (by decide),if_pos rfl]
        cases mnL x <;> cases mnAll r <;> simp [joinN]
       ·rw [if_neg h1,if_neg h2]
        by_cases h3:d=47
        ·subst h3
         rw [cuL_on (by decide) (cuL_sl t),mnAll,mnL_none]
         rfl
        ·rw [cuL_on (by decide) (cuL_on h3 hx),mnAll,mnL_til,if_neg h1,if_neg h2]
         rfl
    ·rw [rfL_plain hc hc2,addN_on,ih t ht]
     obtain ⟨x,r,hx⟩:=cuL_ne t
     rw [cuL_on hc hx,hx,mnAll,mnAll,mnL_plain hc2]
     cases mnL x <;> cases mnAll r <;> simp [joinN]
theorem rfL_ptr (l:List UInt8):(∀ c ∈ l.head?,c=47)→rfL [] l=ptrL l:=by
 intro h
 cases l with
 | nil=>rfl
 | cons c t =>
  obtain rfl:c=47:=h c rfl
  rw [rfL_sl,rfL_on t.length t (Nat.le_refl _) [] [],ptrL,if_pos rfl]
  cases hm:mnAll (cuL t) with
  | none=>rfl
  | some q =>
   cases q with
   | nil =>
    obtain ⟨x,r,hx⟩:=cuL_ne t
    rw [hx,mnAll] at hm
    cases h1:mnL x <;> cases h2:mnAll r <;> rw [h1,h2] at hm <;> simp at hm
   | cons y z=>simp [joinN]
def wrN:List UInt8→List UInt8
 | []=>[]
 | c :: t=>if c=126 then 126 :: 48 :: wrN t else if c=47 then 126 :: 49 :: wrN t else c :: wrN t
def wrL:List (List UInt8)→List UInt8
 | []=>[]
 | a :: r=>47 :: (wrN a++wrL r)
theorem cuL_pre:∀ (a:List UInt8),(∀ c ∈ a,c≠47)→∀ t x r,cuL t=x :: r→cuL (a++t)=(a++x) :: r
 | [],_,t,x,r,h=>h
 | c :: a,hn,t,x,r,h=>by
  rw [List.cons_append,cuL_on (hn c (by simp)) (cuL_pre a (fun d hd=>hn d (by simp [hd])) t x r h)]
  rfl
theorem cuL_self (a:List UInt8) (h:∀ c ∈ a,c≠47):cuL a=[a]:=by
 have:=cuL_pre a h [] [] [] rfl
 simpa using this
theorem wrL_app:∀ L M:List (List UInt8),wrL (L++M)=wrL L++wrL M
 | [],M=>rfl
 | a :: L,M=>by rw [List.cons_append,wrL,wrL,wrL_app L M];simp
end Go.Proofs.YtjcpamjeekfblaaGreatDoor
