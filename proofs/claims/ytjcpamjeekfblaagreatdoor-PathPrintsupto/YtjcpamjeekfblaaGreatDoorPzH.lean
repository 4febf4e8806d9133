import Derived.Test.YtjcpamjeekfblaaGreatDoorPack1
import Derived.Test.YtjcpamjeekfblaaGreatDoorPack17
import Derived.BigQuiet
namespace Go.Proofs.YtjcpamjeekfblaaGreatDoor
open Go.RowKit Go.Shelf
def mkS7 (i:Nat):Stp:=⟨-7,⟨#[]⟩,8000024+(i:Int)⟩
def mksL (t:Nat):List Stp:=(List.range t).map mkS7
def lentS (ss:List Stp):List Stp:=ss++mksL 24
theorem mksL_len (t:Nat):(mksL t).length=t:=by simp [mksL]
theorem mksL_succ (t:Nat):mksL (t+1)=mksL t++[mkS7 t]:=by simp [mksL,List.range_succ]
theorem lent_front {ss:List Stp} {i:Nat} {s:Stp} (h:ss[i]? = some s):(lentS ss)[i]? = some s:=by
  unfold lentS
  rw [List.getElem?_append_left (List.getElem?_eq_some_iff.1 h).1]
  exact h
theorem lent_back (ss:List Stp) {t:Nat} (h:t<24):(lentS ss)[ss.length+t]? = some (mkS7 t):=by
  unfold lentS
  rw [List.getElem?_append_right (by omega),show ss.length+t-ss.length=t by omega]
  simp [mksL,h]
theorem lent_at {w:World} {ao:Option Addr} {ss:List Stp} (h:StepsAt w ao (lentS ss)):StepsAt w ao ss:=fun i s hi=>h i s (lent_front hi)
theorem markS_calls (t:Nat) (ht:t<24) (w:World):Calls Tryz.prog 26 #[.int .i64 1,.int .i64 (t:Int)] w fun e w'=>e = .returned (.int .i64 (8000024+(t:Int)))∧Below w.heap.size w w':=by
  go_enter Tryz.func26,Tryz.ntmps26
  go_wp2
  go_ret
  exact ⟨rfl,by exact bw⟩
set_option maxRecDepth 10000 in
set_option maxHeartbeats 8000000 in
theorem lentS_calls (ss : List Stp) (ao : Option Addr) (N cap : Nat) (hN : Hid (ss.length = N)) (hNi : N ≤ 1048576) (w : World) (hk : Hid (StepsAt w ao ss)) :
    Calls Tryz.prog 12 #[.slice ao N cap] w fun e w'=>∃ g c,e = .returned (.slice (some ⟨g,0,none⟩) N c)∧(N+24≤c∧c≤9223372036854775807)∧StepsAt w' (some ⟨g,0,none⟩) (lentS ss)∧Below w.heap.size w w':=by
  have hNi':(N:Int)≤1048576:=by omega
  go_enter Tryz.func12,Tryz.ntmps12
  go_wp2
  go_loopw [3,4] (fun vv ii wr=>∃ i:Nat,i≤N∧ii = .int .i64 (i:Int)∧Hid (StG w.heap.size wr vv (ss.take i))∧Hid (Below w.heap.size w wr)) (fun _ ii _=>N-(intOf ii).toNat)
  case atStart=>exact ⟨0,Nat.zero_le _,rfl,hid (by rw [List.take_zero];exact StG.nil _ _),hid (Below.refl _ _)⟩
  case round =>
    obtain ⟨i,hi,rfl,hG,hb⟩:=hrel
    by_cases hlt:i<N
    · have hli:(i:Int)<(N:Int):=by omega
      obtain ⟨s,hs⟩:∃ s,Hid (ss[i]? = some s):=⟨_,List.getElem?_eq_getElem (by rw [hN.out];exact hlt)⟩
      have hk2:=hk.out.kept hb.out
      have hnm:=hid ((hk2 i s hs.out).1)
      obtain ⟨g,o,rfl,hg,hrg⟩:=steps_at hk2 hs.out
      have htk:=hid (show ss.take (i+1)=ss.take i++[s] by rw [List.take_add_one,hs.out];simp)
      have hlt':=hid (show i+1≤N by omega)
      have hql:=hid (show (ss.take i).length<1099511627776 by rw [List.length_take];omega)
      obtain ⟨k,nm,pl⟩:=s
      have hrg':=hid hrg
      have z1:(Tryz.prog.info? 34).map (·.size)=some ([.int .i64 k,.string nm,.int .i64 pl]:List Value).length:=sizeStp
      have hbd:=build1Stp (.int .i64 k) (.string nm) (.int .i64 pl)
      have A4:=hid (At.new wr #[.int .i64 k,.string nm,.int .i64 pl] 34)
      have B4:=hid (hb.out.alloc hb.out.size (.cells #[.int .i64 k,.string nm,.int .i64 pl] 34))
      have G4:=hid (hG.out.keptB ((Below.refl _ wr).alloc (Nat.le_refl _) (.cells #[.int .i64 k,.string nm,.int .i64 pl] 34)))
      have C4:=hid (show ∀ (j:Nat) (y:Value),(stCs ⟨k,nm,pl⟩)[j]? = some y→(wr.alloc (.cells #[.int .i64 k,.string nm,.int .i64 pl] 34)).cell? ((⟨wr.heap.size,0,none⟩:Addr).add j)=some y from fun j y hj=>by
        have:=A4.out.cell j
        rw [Addr.add_mid,Nat.zero_add,this]
        simpa [stCs] using hj)
      clear hs hk2 hg hrg hb hG A4
      go_wp2_with (first
        | (refine wpList_load_want 34 _ g (o+i*3) [.int .i64 k,.string nm,.int .i64 pl] _ hrg'.out Tryz.underlying34 z1 rfl rfl rfl (by rfl) ?_)
        | (at_builtin;refine wpList_stp rfl _ _ rfl w.heap.size _ (ss.take i) ⟨k,nm,pl⟩ _ 1 rfl rfl G4.out hnm.out C4.out hql.out B4.out.size ?_;intro v' w' h1 hg1;have G5:=hid h1;have B5:=hid (B4.out.grown hg1 B4.out.size (fun b e=>(G4.out.blk e).1));clear h1 hg1 G4 B4 C4)
        | fail)
      go_roundw
      case rel=>exact ⟨i+1,hlt'.out,by simp,hid (by rw [htk.out];exact G5.out),B5⟩
      case measure=>simp [intOf];have:=hlt'.out;omega
    · obtain rfl:i=N:=by omega
      have hT0:ss.take i=ss:=List.take_of_length_le (by rw [hN.out];exact Nat.le_refl _)
      rw [hT0] at hG
      go_wp2
      go_loopw [3,5] (fun vv ii wr=>∃ t:Nat,t≤24∧ii = .int .i64 (t:Int)∧Hid (StG w.heap.size wr vv (ss++mksL t))∧Hid (Below w.heap.size w wr)) (fun _ ii _=>24-(intOf ii).toNat)
      case atStart=>exact ⟨0,by decide,rfl,hid (by simpa [mksL] using hG.out),hb⟩
      case round =>
        clear hG hb
        obtain ⟨t,ht,rfl,hG,hb⟩:=hrel
        by_cases hlt2:t<24
        · have hmk:=hid (fun u=>markS_calls t hlt2 u)
          have hql:=hid (show (ss++mksL t).length<1099511627776 by rw [List.length_append,mksL_len,hN.out];omega)
          have hbd:=build1Stp (.int .i64 (-7)) (.string ⟨#[]⟩) (.int .i64 (8000024+(t:Int)))
          have hnx:=hid (show ss++mksL (t+1)=(ss++mksL t)++[⟨-7,⟨#[]⟩,8000024+(t:Int)⟩] by rw [mksL_succ,List.append_assoc];rfl)
          have hlt':=hid (show t+1≤24 by omega)
          go_wp2_with fail
          refine Calls.mono (hmk.out _) ?_
          rintro e w2 ⟨rfl,b2⟩
          have B2:=hid (hb.out.trans (b2.mono hb.out.size))
          have G2:=hid (hG.out.keptB b2)
          have A4:=hid (At.new w2 #[.int .i64 (-7),.string ⟨#[]⟩,.int .i64 (8000024+(t:Int))] 34)
          have B4:=hid (B2.out.alloc B2.out.size (.cells #[.int .i64 (-7),.string ⟨#[]⟩,.int .i64 (8000024+(t:Int))] 34))
          have G4:=hid (G2.out.keptB ((Below.refl _ w2).alloc (Nat.le_refl _) (.cells #[.int .i64 (-7),.string ⟨#[]⟩,.int .i64 (8000024+(t:Int))] 34)))
          have C4:=hid (show ∀ (j:Nat) (y:Value),(stCs ⟨-7,⟨#[]⟩,8000024+(t:Int)⟩)[j]? = some y→(w2.alloc (.cells #[.int .i64 (-7),.string ⟨#[]⟩,.int .i64 (8000024+(t:Int))] 34)).cell? ((⟨w2.heap.size,0,none⟩:Addr).add j)=some y from fun j y hj=>by
            have:=A4.out.cell j
            rw [Addr.add_mid,Nat.zero_add,this]
            simpa [stCs] using hj)
          generalize ss++mksL t=Z at *
          have hnm:Hid ((⟨-7,⟨#[]⟩,8000024+(t:Int)⟩:Stp).name.size≤capT):=hid (by show 0≤capT;exact Nat.zero_le _)
          clear b2 hG hb B2 G2 A4 hmk
          go_wp2_with (first
            | (at_builtin;refine wpList_stp rfl _ _ rfl w.heap.size _ Z ⟨-7,⟨#[]⟩,8000024+(t:Int)⟩ _ 1 rfl rfl G4.out hnm.out C4.out hql.out B4.out.size ?_;intro v' w' h1 hg1;have G5:=hid h1;have B5:=hid (B4.out.grown hg1 B4.out.size (fun b e=>(G4.out.blk e).1));clear h1 hg1 G4 B4 C4)
            | fail)
          go_roundw
          case rel=>exact ⟨t+1,hlt'.out,by simp,hid (by rw [hnx.out];exact G5.out),B5⟩
          case measure=>simp [intOf];have:=hlt'.out;omega
        · obtain rfl:t=24:=by omega
          have hl:(ss++mksL 24).length=i+24:=by rw [List.length_append,mksL_len,hN.out]
          rcases hG.out.1.2 with ⟨_,h0⟩ | ⟨g,c,cur,rfl,hg,hcur,hc1,hc2,-,-⟩
          · omega
          · rw [hl] at hc1 ⊢
            have hst:=hid (show StepsAt wr (some ⟨g,0,none⟩) (lentS ss) from hG.out.row.2)
            have hcI:c≤9223372036854775807:=by unfold maxLen at hc2;omega
            have hb':=hid hb.out
            have hcc:=hid (And.intro hc1 hcI)
            clear hG hb hcur hc2 hl hk hN
            go_wp2
            go_ret
            exact ⟨g,c,rfl,hcc.out,hst.out,hb'.out⟩
set_option maxRecDepth 10000 in
set_option maxHeartbeats 8000000 in
theorem keptS_calls (ss : List Stp) (ao : Option Addr) (N cap g c : Nat) (hN : Hid (ss.length = N)) (hNi : N ≤ 1048576) (hc : N + 24 ≤ c ∧ c ≤ 9223372036854775807) (w : World) (hL : Hid (StepsAt w (some ⟨g, 0, none⟩) (lentS ss))) (hk : Hid (StepsAt w ao ss)) :
    Calls Tryz.prog 17 #[.slice (some ⟨g,0,none⟩) N c,.slice ao N cap] w fun e w'=>e = .returned (.bool true)∧Below w.heap.size w w':=by
  have hNi':(N:Int)≤1048576:=by omega
  obtain ⟨hc1,hc2⟩:=hc
  go_enter Tryz.func17,Tryz.ntmps17
  go_wp2
  go_loopw [6] (fun ii wr=>∃ i:Nat,i≤N+24∧ii = .int .i64 (i:Int)∧Hid (Below w.heap.size w wr)) (fun ii _=>N+24-(intOf ii).toNat)
  case atStart=>exact ⟨0,Nat.zero_le _,rfl,hid (Below.refl _ _)⟩
  case round =>
    obtain ⟨i,hi,rfl,hb⟩:=hrel
    by_cases hlt:i<N+24
    · have hlt':=hid (show i+1≤N+24 by omega)
      have hli:(i:Int)<(N:Int)+24:=by omega
      by_cases hik:i<N
      · obtain ⟨s,hs⟩:∃ s,Hid (ss[i]? = some s):=⟨_,List.getElem?_eq_getElem (by rw [hN.out];exact hik)⟩
        obtain ⟨g1,o1,hg1,-,hr1⟩:=steps_at (hL.out.kept hb.out) (lent_front hs.out)
        obtain ⟨g2,o2,rfl,-,hr2⟩:=steps_at (hk.out.kept hb.out) hs.out
        cases hg1
        obtain ⟨k,nm,pl⟩:=s
        have R1:=hid (show wr.rangeAt g (i*3) [.int .i64 k,.string nm,.int .i64 pl] from (by rw [Nat.zero_add] at hr1;exact hr1))
        have R2:=hid (show wr.rangeAt g2 (o2+i*3) [.int .i64 k,.string nm,.int .i64 pl] from hr2)
        have eqs:∀ u,(Op.equalIn 10000 34 (.agg #[.int .i64 k,.string nm,.int .i64 pl]) (.agg #[.int .i64 k,.string nm,.int .i64 pl])).run Tryz.prog u = .ok true u:=fun u=>by rw [eqStp];simp
        have e1:decide ((i:Int)<(N:Int))=true:=by simp;omega
        have e3:decide ((N:Int)≤(i:Int))=false:=by simp;omega
        have e5:decide (N≤i)=false:=by simp;omega
        clear hs hr1 hr2 hL hk hN
        go_wp2
        refine wp_region_quiet (C:=(fun w'=>Below wr.heap.size wr w')) (by kernel_rfl) (by kernel_rfl) ((Below.refl _ _).drew) ?_
        dsimp only
        repeat (first
          | go_big_quiet_skip
          | (refine' wpQuiet_take (by rfl) ?_ ?_
             rotate_left
             · (intro wq hq;(try dsimp only at hq);go_simp
                first
                  | done
                  | with_reducible rfl
               )
             simp only [psA])
          | (refine wpQuiet_load 34 _ (g) (i*3) [.int .i64 k,.string nm,.int .i64 pl] _ (fun wq hq=>range_kept R1.out hq) Tryz.underlying34 sizeStp rfl rfl rfl (by rfl) ?_;simp only [psA])
          | (refine wpQuiet_load 34 _ (g2) (o2+i*3) [.int .i64 k,.string nm,.int .i64 pl] _ (fun wq hq=>range_kept R2.out hq) Tryz.underlying34 sizeStp rfl rfl rfl (by rfl) ?_;simp only [psA]))
        refine wpQuiet_nil ?_
        intro wz hwz
        have hfin:=hid (hb.out.trans (Below.mono hwz hb.out.size))
        clear hwz
        go_wp2
        go_roundw
        case rel=>exact ⟨i+1,hlt'.out,by simp,hfin⟩
        case measure=>simp [intOf];have:=hlt'.out;omega
      · obtain ⟨t,ht⟩:∃ t,Hid (i-N=t):=⟨_,rfl⟩
        have ht24:t<24:=by have:=ht.out;omega
        have hmk:=hid (fun u=>markS_calls t ht24 u)
        obtain ⟨g1,o1,hg1,-,hr1⟩:=steps_at (hL.out.kept hb.out) (show (lentS ss)[i]? = some (mkS7 t) by
          have h:=lent_back ss ht24
          rw [hN.out,show N+t=i by have:=ht.out;omega] at h
          exact h)
        cases hg1
        have R1:=hid (show wr.rangeAt g (i*3) [.int .i64 (-7),.string ⟨#[]⟩,.int .i64 (8000024+(t:Int))] from (by rw [Nat.zero_add] at hr1;exact hr1))
        have eqs:∀ u,(Op.equalIn 10000 34 (.agg #[.int .i64 (-7),.string ⟨#[]⟩,.int .i64 (8000024+(t:Int))]) (.agg #[.int .i64 (-7),.string ⟨#[]⟩,.int .i64 (8000024+(t:Int))])).run Tryz.prog u = .ok true u:=fun u=>by rw [eqStp];simp
        have e1:decide ((i:Int)<(N:Int))=false:=by simp;omega
        have e5:decide (i<N)=false:=by simp;omega
        have e3:decide ((N:Int)≤(i:Int))=true:=by simp;omega
        have e6:decide (N≤i)=true:=by simp;omega
        have e4:(i:Int)-(N:Int)=(t:Int):=by have:=ht.out;omega
        have ew:IntKind.i64.wrap (t:Int)=(t:Int):=by rw [IntKind.wrap_i64];omega
        clear hik hr1 hL hk hN
        go_wp2
        refine wp_region_quiet (C:=(fun w'=>Below wr.heap.size wr w')) (by kernel_rfl) (by kernel_rfl) ((Below.refl _ _).drew) ?_
        dsimp only
        repeat (first
          | go_big_quiet_skip
          | (refine' wpQuiet_take (by rfl) ?_ ?_
             rotate_left
             · (intro wq hq;(try dsimp only at hq);go_simp
                first
                  | done
                  | with_reducible rfl
                  | (go_at_call 26;have hzz:=hmk.out wq;with_reducible refine hzz.mono ?_;clear hzz;rintro e wz ⟨rfl,hb⟩;exact ⟨rfl,Below.trans hq (Below.mono hb hq.size)⟩)
               )
             simp only [psA])
          | (refine wpQuiet_load 34 _ (g) (i*3) [.int .i64 (-7),.string ⟨#[]⟩,.int .i64 (8000024+(t:Int))] _ (fun wq hq=>range_kept R1.out hq) Tryz.underlying34 sizeStp rfl rfl rfl (by rfl) ?_;simp only [psA]))
        refine wpQuiet_nil ?_
        intro wz hwz
        have hfin:=hid (hb.out.trans (Below.mono hwz hb.out.size))
        clear hwz
        go_wp2
        go_roundw
        case rel=>exact ⟨i+1,hlt'.out,by simp,hfin⟩
        case measure=>simp [intOf];have:=hlt'.out;omega
    · obtain rfl:i=N+24:=by omega
      clear hL hk hN
      go_wp2
      go_ret
      exact ⟨rfl,hb.out⟩
end Go.Proofs.YtjcpamjeekfblaaGreatDoor
