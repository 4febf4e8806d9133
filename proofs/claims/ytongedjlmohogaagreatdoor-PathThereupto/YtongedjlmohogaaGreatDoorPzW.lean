import Derived.Test.YtongedjlmohogaaGreatDoorPzV
import Derived.Test.YtongedjlmohogaaGreatDoorPzU
import Derived.Test.YtongedjlmohogaaGreatDoorPzF
import Derived.Test.YtongedjlmohogaaGreatDoorPack18
import Derived.Test.YtongedjlmohogaaGreatDoorPack22
namespace Go.Proofs.YtongedjlmohogaaGreatDoor
open Go.RowKit Go.Shelf
theorem tx36_size (l:List UInt8):(⟨(36 :: l).toArray⟩:ByteArray).size=1+l.length:=by
 show (36 :: l).toArray.size=_
 simp
 omega
theorem parseW_calls {p:List Stp} {l:List UInt8} (h:Wrs p l) (hf:p.all fmS=true) (hl:1+l.length≤8388608) (w:World):Calls Tryz.prog 8 #[.string ⟨(36 :: l).toArray⟩] w fun e w'=>(∃ so cap,e = .returned (.tuple #[.slice so p.length cap,.int .i64 0,.int .i64 0])∧StepsAt w' so p)∧Below w.heap.size w w':=by
 refine Calls.mono (parse22_calls _ (by rw [tx36_size];exact hl) w) ?_
 rintro e w' ⟨⟨v,q,E,k,rfl,hv,hp⟩,b⟩
 obtain ⟨rfl,rfl,hk⟩:=hp.uniq (wr_pp h hf)
 obtain rfl:k=0:=hk
 obtain ⟨so,cap,rfl⟩:=hv.shape
 exact ⟨⟨so,cap,rfl,hv.row.2⟩,b⟩
theorem parseA_calls (s:ByteArray) (hs:s.size≤1048576) (w:World):Calls Tryz.prog 8 #[.string s] w fun e w'=>((∃ so cap p,e = .returned (.tuple #[.slice so p.length cap,.int .i64 0,.int .i64 0])∧StepsAt w' so p∧Rds s s.size p∧0<s.size) ∨
  (∃ (so:Option Addr) (cap k:Nat),e = .returned (.tuple #[.slice so 0 cap,.int .i64 220,.int .i64 ((k:Nat):Int)])∧k≤s.size))∧Below w.heap.size w w':=by
 refine Calls.mono (parse22_calls s (by omega) w) ?_
 rintro e w' ⟨⟨v,q,E,k,rfl,hv,hp⟩,b⟩
 obtain ⟨so,cap,rfl⟩:=hv.shape
 refine ⟨?_,b⟩
 rcases hp with ⟨-,rfl,rfl,rfl⟩ | ⟨h0,⟨h,rfl,rfl⟩ | ⟨a,q',-,ha,hr,rfl,rfl⟩⟩
 ·exact .inr ⟨so,cap,0,rfl,Nat.zero_le _⟩
 ·exact .inl ⟨so,cap,q,rfl,hv.row.2,h,h0.1⟩
 ·exact .inr ⟨so,cap,k,rfl,(hr.rd ha).1⟩
theorem Rds.nm {s:ByteArray} {a:Nat} {p:List Stp} (h:Rds s a p):∀ x ∈ p,x.name.size≤s.size:=by
 induction h with
 | nil=>intro x hx;simp at hx
 | snoc h ha hr ih =>
  intro x hx
  rcases List.mem_append.1 hx with hx | hx
  ·exact ih x hx
  ·cases List.mem_singleton.1 hx
   exact hr.nm
set_option maxRecDepth 10000 in
set_option maxHeartbeats 8000000 in
theorem pathThere_walk (ao:Option Addr) (cap:Nat) (ss:List Stp) (hbl:blkSt ss≤1048576) (hpl:plcI ss) (s:ByteArray) (hsz:s.size≤1048576) (w:World) (hP:PowT w) (hT:TabU w) (hM:MxI w) (hk:StepsAt w ao ss) :
  Calls Tryz.prog 6 #[.slice ao ss.length cap,.string s] w fun e w'=>e = .returned (.bool true)∧Below w.heap.size w w':=by
 obtain ⟨N,hN⟩:∃ N,Hid (ss.length=N):=⟨_,rfl⟩
 have hNi:N≤1048576:=by have:=blkSt_len ss;rw [hN.out] at this;omega
 have hnm:=hid (show ∀ s ∈ ss,s.name.size≤1048576∧(-9223372036854775808≤s.place∧s.place≤9223372036854775807) from fun s hs=>by
  obtain ⟨i,hi,e⟩:=List.mem_iff_getElem.1 hs
  refine ⟨by have:=blkSt_mem hs;omega,(hpl i s (by rw [List.getElem?_eq_getElem hi,e])).2⟩)
 have hlen:=hid (show ∀ l,Wrs ss l→1+l.length≤8388608 from fun l hl=>by have:=wrs_blk hl (fun s hs=>(hnm.out s hs).2);omega)
 have q3:=hid (fun (u:World) h1 h2 h3=>callsIn_wide.1 (awake22_in u h1 h2 h3))
 have g1:=hid (fun (u:World)=>parseA_calls s hsz u)
 have hsz':(s.size:Int)≤1048576:=by omega
 have hsz2:=hid hsz
 have hT':=hid hT
 have hP':=hid hP
 have hM':=hid hM
 have hk':=hid hk
 have f1:=hid (fun (u:World) (h1:Hid (StepsAt u ao ss)) (h2:Hid (TabU u))=>formedL_calls ss ao N cap hN (by omega) u h1 h2)
 rw [hN.out]
 clear hT hP hM hk hbl hpl hsz
 cases hf:ss.all fmS with
 | false =>
  rw [hf] at f1
  have pr:=hid (fun (u:World) (h1:Hid (StepsAt u ao ss)) (h2:Hid (TabU u)) (_:Hid (PowT u))=>print22_no ss ao N cap hN hNi hf u h1 h2)
  have hf':=hid hf
  clear hnm hf
  go_enter Tryz.func6,Tryz.ntmps6
  go_wp2_with fail
  refine Calls.mono (q3.out _ hT'.out hP'.out hM'.out) ?_
  rintro e w1 ⟨rfl,b1⟩
  have B1:=hid b1
  clear b1 q3
  go_wp2_with fail
  refine Calls.mono (pr.out _ (hid (hk'.out.kept B1.out)) (hid (hT'.out.below B1.out)) (hid (hP'.out.kept B1.out))) ?_
  rintro e w2 ⟨rfl,b2⟩
  have B2:=hid (B1.out.trans (b2.mono B1.out.size))
  clear b2 pr B1
  go_wp2_with fail
  refine Calls.mono (f1.out _ (hid (hk'.out.kept B2.out)) (hid (hT'.out.below B2.out))) ?_
  rintro e w3 ⟨rfl,b3⟩
  have B3:=hid (B2.out.trans (b3.mono B2.out.size))
  clear b3 f1 B2
  go_wp2_with fail
  refine Calls.mono (g1.out _) ?_
  rintro e w6 ⟨⟨so6,c6,q,rfl,hq,hr,h0⟩ | ⟨so6,c6,k,rfl,hkk⟩,b6⟩
  ·have hq':=hid hq
   have hfq:=hid (rds_fm hr)
   have B6:=hid (B3.out.trans (b6.mono B3.out.size))
   have hle:=(hr.le h0).2
   obtain ⟨M,hM2⟩:∃ M,Hid (q.length=M):=⟨_,rfl⟩
   have hMi:M≤1048576:=by have:=hM2.out;have:=hsz2.out;omega
   have hMi':(M:Int)≤1048576:=by omega
   have hqn:=hid (show ∀ x ∈ q,x.name.size≤1048576∧(-9223372036854775808≤x.place∧x.place≤9223372036854775807) from fun x hx=>by
    refine ⟨Nat.le_trans (hr.nm x hx) hsz2.out,?_⟩
    rcases fm_cases (List.all_eq_true.1 hfq.out x hx) with ⟨nm,rfl,-⟩ | ⟨p,rfl,hp⟩ | rfl
    ·exact ⟨by dsimp only;omega,by dsimp only;omega⟩
    ·exact ⟨by dsimp only;omega,by dsimp only;omega⟩
    ·exact ⟨by dsimp only;omega,by dsimp only;omega⟩)
   have hl8:=hid (show ∀ l,Wrs q l→1+l.length≤8388608 from fun l hl=>by have:=rds_len hr l hl;have:=hsz2.out;omega)
   clear b6 B3 hq hr g1 hle
   rw [hM2.out]
   go_wp2_with fail
   refine Calls.mono (print22_calls q so6 M c6 hM2 hMi hfq.out hqn _ hq' (hid (hT'.out.below B6.out)) (hid (hP'.out.kept B6.out))) ?_
   rintro e w7 ⟨⟨l7,rfl,hl7⟩,b7⟩
   have Q7:=hid (hq'.out.kept b7)
   have B7:=hid (B6.out.trans (b7.mono B6.out.size))
   clear b7 B6 hqn
   go_wp2_with fail
   refine Calls.mono (parseW_calls hl7 hfq.out (hl8.out _ hl7) _) ?_
   rintro e w8 ⟨⟨so8,c8,rfl,hs8⟩,b8⟩
   have S8:=hid hs8
   have Q8:=hid (Q7.out.kept b8)
   have B8:=hid (B7.out.trans (b8.mono B7.out.size))
   clear b8 B7 Q7 hs8
   rw [hM2.out]
   have fq:=hid (formedL_calls q so6 M c6 hM2 (by omega) w8 Q8 (hid (hT'.out.below B8.out)))
   rw [hfq.out] at fq
   go_wp2_with fail
   refine Calls.mono fq.out ?_
   rintro e w9 ⟨rfl,b9⟩
   have S9:=hid (S8.out.kept b9)
   have Q9:=hid (Q8.out.kept b9)
   have B9:=hid (B8.out.trans (b9.mono B8.out.size))
   clear b9 B8 S8 Q8 fq
   go_wp2_with fail
   refine Calls.mono (sameS_calls q so8 so6 M c8 c6 hM2 (by omega) _ S9 Q9) ?_
   rintro e w10 ⟨rfl,b10⟩
   have B10:=hid (B9.out.trans (b10.mono B9.out.size))
   clear b10 B9 S9 Q9
   go_wp2
   go_ret
   exact ⟨rfl,B10.out⟩
  ·have B6:=hid (B3.out.trans (b6.mono B3.out.size))
   have hki:(k:Int)≤(s.size:Int):=by omega
   have e7:decide ((0:Int)≤(k:Int))=true:=by simp
   have e8:decide ((k:Int)≤(s.size:Int))=true:=by simp;omega
   clear b6 B3 g1
   go_wp2
   go_ret
   exact ⟨rfl,B6.out⟩
 | true =>
  rw [hf] at f1
  have pr:=hid (fun (u:World) (h1:Hid (StepsAt u ao ss)) (h2:Hid (TabU u)) (h3:Hid (PowT u))=>print22_calls ss ao N cap hN hNi hf hnm u h1 h2 h3)
  have hf':=hid hf
  clear hnm hf
  go_enter Tryz.func6,Tryz.ntmps6
  go_wp2_with fail
  refine Calls.mono (q3.out _ hT'.out hP'.out hM'.out) ?_
  rintro e w1 ⟨rfl,b1⟩
  have B1:=hid b1
  clear b1 q3
  go_wp2_with fail
  refine Calls.mono (pr.out _ (hid (hk'.out.kept B1.out)) (hid (hT'.out.below B1.out)) (hid (hP'.out.kept B1.out))) ?_
  rintro e w2 ⟨⟨l,rfl,hl⟩,b2⟩
  have B2:=hid (B1.out.trans (b2.mono B1.out.size))
  clear b2 pr B1
  go_wp2_with fail
  refine Calls.mono (f1.out _ (hid (hk'.out.kept B2.out)) (hid (hT'.out.below B2.out))) ?_
  rintro e w3 ⟨rfl,b3⟩
  have B3:=hid (B2.out.trans (b3.mono B2.out.size))
  clear b3 f1 B2
  go_wp2_with fail
  refine Calls.mono (parseW_calls hl hf'.out (hlen.out _ hl) _) ?_
  rintro e w4 ⟨⟨so,c4,rfl,hst⟩,b4⟩
  have hst':=hid hst
  have B4:=hid (B3.out.trans (b4.mono B3.out.size))
  clear b4 B3 hst
  rw [hN.out]
  go_wp2_with fail
  refine Calls.mono (sameS_calls ss so ao N c4 cap hN (by omega) _ hst' (hid (hk'.out.kept B4.out))) ?_
  rintro e w5 ⟨rfl,b5⟩
  have B3:=hid (B4.out.trans (b5.mono B4.out.size))
  clear b5 B4
  go_wp2_with fail
  refine Calls.mono (g1.out _) ?_
  rintro e w6 ⟨⟨so6,c6,q,rfl,hq,hr,h0⟩ | ⟨so6,c6,k,rfl,hkk⟩,b6⟩
  ·have hq':=hid hq
   have hfq:=hid (rds_fm hr)
   have B6:=hid (B3.out.trans (b6.mono B3.out.size))
   have hle:=(hr.le h0).2
   obtain ⟨M,hM2⟩:∃ M,Hid (q.length=M):=⟨_,rfl⟩
   have hMi:M≤1048576:=by have:=hM2.out;have:=hsz2.out;omega
   have hMi':(M:Int)≤1048576:=by omega
   have hqn:=hid (show ∀ x ∈ q,x.name.size≤1048576∧(-9223372036854775808≤x.place∧x.place≤9223372036854775807) from fun x hx=>by
    refine ⟨Nat.le_trans (hr.nm x hx) hsz2.out,?_⟩
    rcases fm_cases (List.all_eq_true.1 hfq.out x hx) with ⟨nm,rfl,-⟩ | ⟨p,rfl,hp⟩ | rfl
    ·exact ⟨by dsimp only;omega,by dsimp only;omega⟩
    ·exact ⟨by dsimp only;omega,by dsimp only;omega⟩
    ·exact ⟨by dsimp only;omega,by dsimp only;omega⟩)
   have hl8:=hid (show ∀ l,Wrs q l→1+l.length≤8388608 from fun l hl=>by have:=rds_len hr l hl;have:=hsz2.out;omega)
   clear b6 B3 hq hr g1 hle
   rw [hM2.out]
   go_wp2_with fail
   refine Calls.mono (print22_calls q so6 M c6 hM2 hMi hfq.out hqn _ hq' (hid (hT'.out.below B6.out)) (hid (hP'.out.kept B6.out))) ?_
   rintro e w7 ⟨⟨l7,rfl,hl7⟩,b7⟩
   have Q7:=hid (hq'.out.kept b7)
   have B7:=hid (B6.out.trans (b7.mono B6.out.size))
   clear b7 B6 hqn
   go_wp2_with fail
   refine Calls.mono (parseW_calls hl7 hfq.out (hl8.out _ hl7) _) ?_
   rintro e w8 ⟨⟨so8,c8,rfl,hs8⟩,b8⟩
   have S8:=hid hs8
   have Q8:=hid (Q7.out.kept b8)
   have B8:=hid (B7.out.trans (b8.mono B7.out.size))
   clear b8 B7 Q7 hs8
   rw [hM2.out]
   have fq:=hid (formedL_calls q so6 M c6 hM2 (by omega) w8 Q8 (hid (hT'.out.below B8.out)))
   rw [hfq.out] at fq
   go_wp2_with fail
   refine Calls.mono fq.out ?_
   rintro e w9 ⟨rfl,b9⟩
   have S9:=hid (S8.out.kept b9)
   have Q9:=hid (Q8.out.kept b9)
   have B9:=hid (B8.out.trans (b9.mono B8.out.size))
   clear b9 B8 S8 Q8 fq
   go_wp2_with fail
   refine Calls.mono (sameS_calls q so8 so6 M c8 c6 hM2 (by omega) _ S9 Q9) ?_
   rintro e w10 ⟨rfl,b10⟩
   have B10:=hid (B9.out.trans (b10.mono B9.out.size))
   clear b10 B9 S9 Q9
   go_wp2
   go_ret
   exact ⟨rfl,B10.out⟩
  ·have B6:=hid (B3.out.trans (b6.mono B3.out.size))
   have hki:(k:Int)≤(s.size:Int):=by omega
   have e7:decide ((0:Int)≤(k:Int))=true:=by simp
   have e8:decide ((k:Int)≤(s.size:Int))=true:=by simp;omega
   clear b6 B3 g1
   go_wp2
   go_ret
   exact ⟨rfl,B6.out⟩
end Go.Proofs.YtongedjlmohogaaGreatDoor
