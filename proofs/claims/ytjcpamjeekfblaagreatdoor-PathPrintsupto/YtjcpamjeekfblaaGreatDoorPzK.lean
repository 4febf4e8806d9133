import Derived.Test.YtjcpamjeekfblaaGreatDoorPzF
import Derived.Test.YtjcpamjeekfblaaGreatDoorPzD
import Derived.Test.YtjcpamjeekfblaaGreatDoorPzH
import Derived.Test.YtjcpamjeekfblaaGreatDoorPzI
namespace Go.Proofs.YtjcpamjeekfblaaGreatDoor
open Go.RowKit Go.Shelf
set_option maxRecDepth 10000 in
set_option maxHeartbeats 8000000 in
theorem pathPrints_walk (ao:Option Addr) (cap:Nat) (ss:List Stp) (hbl:blkSt ss≤1048576) (hpl:plcI ss) (w:World) (hP:PowT w) (hT:TabU w) (hM:MxI w) (hk:StepsAt w ao ss) :
  Calls Tryz.prog 4 #[.slice ao ss.length cap] w fun e w'=>e = .returned (.bool true)∧Below w.heap.size w w':=by
 obtain ⟨N,hN⟩:∃ N,Hid (ss.length=N):=⟨_,rfl⟩
 have hNi:N≤1048576:=by have:=blkSt_len ss;rw [hN.out] at this;omega
 have hnm:=hid (show ∀ s ∈ ss,s.name.size≤1048576∧(-9223372036854775808≤s.place∧s.place≤9223372036854775807) from fun s hs=>by
  obtain ⟨i,hi,e⟩:=List.mem_iff_getElem.1 hs
  refine ⟨by have:=blkSt_mem hs;omega,(hpl i s (by rw [List.getElem?_eq_getElem hi,e])).2⟩)
 have hsz:=hid (show ∀ s ∈ ss,s.name.size≤4294967296 from fun s hs=>Nat.le_trans (hnm.out s hs).1 (by decide))
 have q0:=hid (lentS_calls ss ao N cap hN hNi w (hid hk))
 have q3:=hid (fun (u:World) h1 h2 h3=>callsIn_wide.1 (awake22_in u h1 h2 h3))
 have hT':=hid hT
 have hP':=hid hP
 have hM':=hid hM
 have hk':=hid hk
 rw [hN.out]
 clear hT hP hM hk hbl hpl
 have key:∃ (t:ByteArray) (E:Int),(∀ (bo:Option Addr) (c:Nat) (u:World),StepsAt u bo ss→TabU u→PowT u→Calls Tryz.prog 13 #[.slice bo N c] u fun e u'=>e = .returned (.tuple #[.string t,.int .i64 E])∧Below u.heap.size u u') ∧
   (∀ (bo:Option Addr) (c:Nat) (u:World),StepsAt u bo ss→PowT u→Calls Tryz.prog 14 #[.slice bo N c] u fun e u'=>e = .returned (.tuple #[.string t,.int .i64 E])∧Below u.heap.size u u'):=by
  cases hf:ss.all fmS with
  | false=>exact ⟨⟨#[]⟩,1,fun bo c u h1 h2 _=>print22_no ss bo N c hN hNi hf u (hid h1) (hid h2),fun bo c u h1 _=>printR22_no ss bo N c hN hNi hf hsz u (hid h1)⟩
  | true =>
   by_cases hex:∃ l,Wrs ss l
   ·obtain ⟨l,hl⟩:=hex
    refine ⟨⟨(36 :: l).toArray⟩,0,fun bo c u h1 h2 h3=>?_,fun bo c u h1 h2=>?_⟩
    ·refine Calls.mono (print22_calls ss bo N c hN hNi hf hnm u (hid h1) (hid h2) (hid h3)) ?_
     rintro e u' ⟨⟨l',rfl,h⟩,b⟩
     rw [h.uniq hl rfl]
     exact ⟨rfl,b⟩
    ·refine Calls.mono (printR22_calls ss bo N c hN hNi hf hnm u (hid h1) (hid h2)) ?_
     rintro e u' ⟨⟨l',rfl,h⟩,b⟩
     rw [h.uniq hl rfl]
     exact ⟨rfl,b⟩
   ·refine ⟨⟨#[]⟩,0,fun bo c u h1 h2 h3=>?_,fun bo c u h1 h2=>?_⟩
    ·refine Calls.mono (print22_calls ss bo N c hN hNi hf hnm u (hid h1) (hid h2) (hid h3)) ?_
     rintro e u' ⟨⟨l',rfl,h⟩,b⟩
     exact absurd ⟨l',h⟩ hex
    ·refine Calls.mono (printR22_calls ss bo N c hN hNi hf hnm u (hid h1) (hid h2)) ?_
     rintro e u' ⟨⟨l',rfl,h⟩,b⟩
     exact absurd ⟨l',h⟩ hex
 obtain ⟨t,E,p1,p2⟩:=key
 have p1':=hid p1
 have p2':=hid p2
 have f1:=hid (fun (u:World) (bo:Option Addr) (c:Nat) (h1:Hid (StepsAt u bo ss)) (h2:Hid (TabU u))=>formedL_calls ss bo N c hN (by omega) u h1 h2)
 have f2:=hid (fun (u:World) (bo:Option Addr) (c:Nat) (h1:Hid (StepsAt u bo ss))=>formedR22_calls ss bo N c hN (by omega) hsz u h1)
 have k1:=hid (fun (u:World) (g c:Nat) (hc:N+24≤c∧c≤9223372036854775807) h1 h2=>keptS_calls ss ao N cap g c hN hNi hc u h1 h2)
 clear p1 p2 hnm hsz
 generalize ss.all fmS=F at f1 f2
 go_enter Tryz.func4,Tryz.ntmps4
 go_wp2_with fail
 refine Calls.mono q0.out ?_
 rintro e w1 ⟨g,c,rfl,hc,s1,b1⟩
 have hc':=hid hc
 have S1:=hid s1
 have B1:=hid b1
 clear hc s1 b1 q0
 go_wp2_with fail
 refine Calls.mono (p1'.out _ c _ (lent_at S1.out) (hT'.out.below B1.out) (hP'.out.kept B1.out)) ?_
 rintro e w2 ⟨rfl,b2⟩
 have B2:=hid (B1.out.trans (b2.mono B1.out.size))
 have S2:=hid (S1.out.kept b2)
 clear b2 p1' B1 S1
 go_wp2_with fail
 refine Calls.mono (p2'.out ao cap _ (hk'.out.kept B2.out) (hP'.out.kept B2.out)) ?_
 rintro e w3 ⟨rfl,b3⟩
 have B3:=hid (B2.out.trans (b3.mono B2.out.size))
 have S3:=hid (S2.out.kept b3)
 clear b3 p2' B2 S2
 have e1:(t.toList == t.toList)=true:=by simp
 have e2:(E == E)=true:=by simp
 have e3:(F == F)=true:=by simp
 go_wp2_with fail
 refine Calls.mono (f1.out _ _ c (hid (lent_at S3.out)) (hid (hT'.out.below B3.out))) ?_
 rintro e w4 ⟨rfl,b4⟩
 have B4:=hid (B3.out.trans (b4.mono B3.out.size))
 have S4:=hid (S3.out.kept b4)
 clear b4 f1 B3 S3
 go_wp2_with fail
 refine Calls.mono (f2.out _ ao cap (hid (hk'.out.kept B4.out))) ?_
 rintro e w5 ⟨rfl,b5⟩
 have B5:=hid (B4.out.trans (b5.mono B4.out.size))
 have S5:=hid (S4.out.kept b5)
 clear b5 f2 B4 S4
 go_wp2_with fail
 refine Calls.mono (k1.out _ g c hc'.out S5 (hid (hk'.out.kept B5.out))) ?_
 rintro e w6 ⟨rfl,b6⟩
 have B6:=hid (B5.out.trans (b6.mono B5.out.size))
 clear b6 k1 B5 S5
 go_wp2_with fail
 refine Calls.mono (q3.out _ (hT'.out.below B6.out) (hP'.out.kept B6.out) (hM'.out.kept B6.out)) ?_
 rintro e w7 ⟨rfl,b7⟩
 have B7:=hid (B6.out.trans (b7.mono B6.out.size))
 clear b7 q3 B6
 go_wp2
 go_ret
 exact ⟨rfl,B7.out⟩
end Go.Proofs.YtjcpamjeekfblaaGreatDoor
