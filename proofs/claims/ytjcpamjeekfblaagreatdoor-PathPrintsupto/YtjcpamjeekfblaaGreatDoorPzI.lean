import Derived.Test.YtjcpamjeekfblaaGreatDoorPzG
import Derived.Test.YtjcpamjeekfblaaGreatDoorPtO
import Derived.Test.YtjcpamjeekfblaaGreatDoorPack18
import Derived.Lib.SlBytesConst
import Derived.Laws.IdiomStrings
namespace Go.Proofs.YtjcpamjeekfblaaGreatDoor
open Go.RowKit Go.Shelf
def BytH (B:Nat) (W:World) (v:Value) (l:List UInt8):Prop:=BytG B W v l∨∃ g fz,v = .slice (some ⟨g,0,none⟩) 1 1∧B≤g∧W.heap[g]? = some (.cells #[.int .u8 36] 5 fz)∧l=[36]
theorem BytH.kept {B:Nat} {W W':World} {v:Value} {l:List UInt8} (h:BytH B W v l) (hb:Below W.heap.size W W'):BytH B W' v l:=by
 rcases h with h | ⟨g,fz,h1,h2,h3,h4⟩
 ·exact .inl (h.kept hb)
 ·exact .inr ⟨g,fz,h1,h2,(hb.block g (Array.getElem?_eq_some_iff.1 h3).1).trans h3,h4⟩
theorem BytH.blk {B:Nat} {w:World} {v:Value} {l:List UInt8} (h:BytH B w v l) (b:Nat) (e:v.ownBlock=some b):B≤b:=by
 rcases h with h | ⟨g,fz,rfl,h2,h3,h4⟩
 ·exact h.blk b e
 ·have:g=b:=by simpa [Value.ownBlock] using e
  omega
theorem BytH.conv {B:Nat} {w:World} {v:Value} {l:List UInt8} (h:BytH B w v l):(convert 63 9 v).run Tryz.prog w = .ok (.string (mkL l)) w:=by
 rcases h with h | ⟨g,fz,rfl,h2,h3,rfl⟩
 ·exact h.conv
 ·exact run_convert_bytes_back (P:=Tryz.prog) w 63 9 5 ⟨g,0,none⟩ 1 [36] Tryz.underlying63 Tryz.underlying5 Tryz.underlying9 (fun j hj=>by
   have hj0:j=0:=by simp at hj;omega
   subst hj0
   simp [World.cell?,h3,Addr.add])
theorem infoU8z:(Tryz.prog.info? 5).map (fun i=>(i.zero,i.size,i.bytes))=some (some (.int .u8 0),1,1):=by kernel_rfl
theorem BytH.app {B:Nat} {w:World} {v:Value} {l:List UInt8} {ty:TypeId} (h:BytH B w v l) (T:ByteArray) (hT:0<T.size) (hn:l.length+T.size≤140737488355328) (hB:B≤w.heap.size) :
  ∃ v' w',(Builtin.append_ #[63,9] ty #[v,.string T]).run Tryz.prog w = .ok v' w'∧BytG B w' v' (l++T.data.toList)∧w.grownBy w' v.ownBlock:=by
 have hl:T.data.toList.length=T.size:=by rw [Array.length_toList];rfl
 rcases h with h | ⟨g,fz,rfl,h2,h3,rfl⟩
 ·obtain ⟨v',w',a,b,c,-⟩:=append_str (ty:=ty) h T hn hB
  refine ⟨v',w',a,?_,c⟩
  unfold BytG
  rw [List.length_append,Lib.byteCells_append,hl]
  exact b
 ·obtain ⟨i0,hi,hz0,hz1,hz2⟩:=info_partsV infoU8z
  simp only [List.length_cons,List.length_nil,Nat.zero_add] at hn
  have hr:=Lib.run_append_grow_string (P:=Tryz.prog) w 63 9 ty 5 i0 (.int .u8 0) Tryz.underlying63 Tryz.underlying9 hi hz0 ⟨g,0,none⟩ 1 1 [.int .u8 36] (by rw [hz1];rfl) (by
   intro j u hj
   match j,hj with
   | 0,hj=>simp at hj;subst hj;simp [World.cell?,h3,Addr.add]
   | j+1,hj=>simp at hj) T (by omega) (by omega) (by rw [hz2];exact growslice_fits (by omega) (by omega))
  refine ⟨_,_,hr,?_,⟨rfl,rfl,rfl,by simp,fun k hk _=>Below.heap_alloc w.drew _ k hk⟩⟩
  have hge:=grownCap_ge w (1+T.size) 1 5
  have hcm2:grownCap w (1+T.size) 1 5≤maxLen:=grownCap_le_maxLen w (1+T.size) 1 5 (by unfold maxLen;omega)
  unfold BytG
  rw [List.length_append,hl]
  refine ⟨by rw [Lib.byteCells_length,List.length_append,hl,Nat.mul_one],.inr ⟨w.heap.size,_,_,rfl,hB,(by show ((w.drew).heap.push _)[w.heap.size]? = _;exact Array.getElem?_push_size),hge,hcm2,?_,?_⟩⟩
  ·have hz1:(Value.int IntKind.u8 0).cells.size=1:=rfl
   simp only [Array.size_append,List.size_toArray,size_zeroCells,hz1,Lib.strCells_length,List.length_cons,List.length_nil]
   omega
  ·simp only [Array.toList_append,List.append_assoc]
   rw [← List.append_assoc]
   have hl2:(([.int .u8 36]:List Value)++Lib.strCells T).length=([36]++T.data.toList:List UInt8).length*1:=by rw [List.length_append,Lib.strCells_length,List.length_append,hl,Nat.mul_one];rfl
   rw [show ([36]:List UInt8).length+T.size=([36]++T.data.toList:List UInt8).length by rw [List.length_append,hl],← hl2,Lib.byteCells_append]
   exact List.take_left
theorem wpList_bytS {ops:Array Oper} {rest:List Oper} {o:Oper} {a:Act} {w:World} {Q:Exit→Act→World→Prop} (hgd:o.guard=none) (sl x:Operand)
  (ho:o.op = .call { callee:=.builtin .append,args:=#[sl,x],argTypes:=#[63,9] }) (base:Nat) (v:Value) (l:List UInt8) (hs:a.eval sl=v) (hown:BytH base w v l) (T:ByteArray) (hx:a.eval x = .string T) (hT:0<T.size)
  (hn:l.length+T.size≤140737488355328) (hbase:base≤w.heap.size)
  (h:∀ v' w',BytG base w' v' (l++T.data.toList)→w.grownBy w' v.ownBlock→wpList Tryz.prog ops Q rest (a.put o.dst v') w'):wpList Tryz.prog ops Q (o :: rest) a w:=by
 obtain ⟨v',w',hr,h1,h2⟩:=hown.app (ty:=o.type) T hT hn hbase
 refine wpList_plain hgd fun K hK=>?_
 unfold Oper.wp execOp
 simp only [ho,resolve,invoke,builtin,Sem.run_bind,Sem.run_pure,Result.andThen_ok,List.map_toArray,List.map_cons,List.map_nil,hs,hx,hr]
 exact hK _ _ (h v' w' h1 h2)
set_option maxRecDepth 10000 in
set_option maxHeartbeats 8000000 in
theorem printR22_no (ss:List Stp) (ao:Option Addr) (N cap:Nat) (hN:Hid (ss.length=N)) (hNi:N≤1048576) (hf:ss.all fmS=false) (hsz:Hid (∀ s ∈ ss,s.name.size≤4294967296)) (w:World) (hk:Hid (StepsAt w ao ss)) :
  Calls Tryz.prog 14 #[.slice ao N cap] w fun e w'=>e = .returned (.tuple #[.string ⟨#[]⟩,.int .i64 1])∧Below w.heap.size w w':=by
 have hF:=hid (formedR22_calls ss ao N cap hN (by omega) hsz w hk)
 rw [hf] at hF
 clear hf
 go_enter Tryz.func14,Tryz.ntmps14
 go_wp2_with fail
 refine Calls.mono hF.out ?_
 rintro e w1 ⟨rfl,b1⟩
 have B1:=hid b1
 clear b1 hF
 go_wp2_with fail
 go_ret2
 exact ⟨rfl,B1.out⟩
set_option maxRecDepth 10000 in
set_option maxHeartbeats 8000000 in
theorem printR22_calls (ss:List Stp) (ao:Option Addr) (N cap:Nat) (hN:Hid (ss.length=N)) (hNi:N≤1048576) (hf:ss.all fmS=true) (hnm:Hid (∀ s ∈ ss,s.name.size≤1048576∧(-9223372036854775808≤s.place∧s.place≤9223372036854775807))) (w:World) (hk:Hid (StepsAt w ao ss)) (hPw:Hid (PowT w)) :
  Calls Tryz.prog 14 #[.slice ao N cap] w fun e w'=>(∃ l,e = .returned (.tuple #[.string ⟨(36 :: l).toArray⟩,.int .i64 0])∧Wrs ss l)∧Below w.heap.size w w':=by
 have hNi':(N:Int)≤1048576:=by omega
 have hF:=hid (formedR22_calls ss ao N cap hN (by omega) (hid (fun s hs=>Nat.le_trans (hnm.out s hs).1 (by decide))) w hk)
 rw [hf] at hF
 have hall:=hid (List.all_eq_true.1 hf)
 clear hf
 go_enter Tryz.func14,Tryz.ntmps14
 go_wp2_with fail
 refine Calls.mono hF.out ?_
 rintro e w1 ⟨rfl,b1⟩
 have hcv0:=Lib.run_convert_bytes_const (P:=Tryz.prog) w1 63 5 #[.int .u8 36] 1 1 Tryz.underlying63 Tryz.underlying5
 obtain ⟨W0,hW0⟩:∃ W,w1.alloc (.cells #[.int .u8 36] 5 (1,1+1))=W:=⟨_,rfl⟩
 have hcv1:(convert 63 63 (.slice (some ⟨w1.heap.size,0,none⟩) 1 1)).run Tryz.prog (w1.alloc (.cells #[.int .u8 36] 5)) = .ok (.slice (some ⟨w1.heap.size,0,none⟩) 1 1) W0:=by rw [← hW0];exact hcv0
 have B0:=hid (show Below w.heap.size w W0 by rw [← hW0];exact b1.alloc b1.size _)
 have D0:Hid (BytH w.heap.size W0 (.slice (some ⟨w1.heap.size,0,none⟩) 1 1) (36 :: [])):=hid (.inr ⟨w1.heap.size,(1,1+1),rfl,b1.size,by rw [← hW0];show (w1.heap.push _)[w1.heap.size]? = _;exact Array.getElem?_push_size,rfl⟩)
 clear b1 hF hcv0 hW0
 go_wp2
 clear hcv1
 go_loopw [4,5] (fun vv ii wr=>∃ (i:Nat) (l:List UInt8),i≤N∧ii = .int .i64 (i:Int)∧Hid (Wrs (ss.take i) l)∧Hid (l.length≤i*6291500)∧Hid (BytH w.heap.size wr vv (36 :: l))∧Hid (Below w.heap.size w wr)) (fun _ ii _=>N-(intOf ii).toNat)
 case atStart=>exact ⟨0,[],Nat.zero_le _,rfl,hid (by rw [List.take_zero];exact .nil),hid (by simp),D0,B0⟩
 case round =>
  obtain ⟨i,l,hi,rfl,hW,hL,hD,hb⟩:=hrel
  clear D0 B0
  by_cases hlt:i<N
  ·have hli:(i:Int)<(N:Int):=by omega
   obtain ⟨s,hs⟩:∃ s,Hid (ss[i]? = some s):=⟨_,List.getElem?_eq_getElem (by rw [hN.out];exact hlt)⟩
   have hk2:=hk.out.kept hb.out
   obtain ⟨g,o,rfl,hg,hrg⟩:=steps_at hk2 hs.out
   have htk:=hid (show ss.take (i+1)=ss.take i++[s] by rw [List.take_add_one,hs.out];simp)
   obtain ⟨hn1,hn2⟩:=hnm.out s (List.mem_of_getElem? hs.out)
   have hfm:=hall.out s (List.mem_of_getElem? hs.out)
   have hlen:=hid (fun T (h:IsWr s T)=>h.len hn1 hn2)
   have hlt':=hid (show i+1≤N by omega)
   have hll:=hid (show l.length≤6600000000000 by have:=hL.out;omega)
   obtain ⟨k,nm,pl⟩:=s
   have c0:wr.cell? ⟨g,o+i*3,none⟩=some (.int .i64 k):=hrg 0 _ rfl
   have c1:wr.cell? ⟨g,o+i*3+1,none⟩=some (.string nm):=hrg 1 _ rfl
   have c2:wr.cell? ⟨g,o+i*3+2,none⟩=some (.int .i64 pl):=hrg 2 _ rfl
   have ee:Hid (g<wr.heap.size):=hid hg
   dsimp only at hn1 hn2
   have h123:k=1∨k=2∨k=3:=by
    unfold fmS at hfm
    by_cases h1:k=1
    ·exact .inl h1
    ·by_cases h2:k=2
     ·exact .inr (.inl h2)
     ·by_cases h3:k=3
      ·exact .inr (.inr h3)
      ·dsimp only at hfm
       rw [if_neg h1,if_neg h2,if_neg h3] at hfm
       cases hfm
   clear hs hk2 hg hrg hfm
   rcases h123 with rfl | rfl | rfl
   ·obtain ⟨n,hn⟩:=wd_ex nm
    obtain ⟨P,hP⟩:∃ P,Hid (decide (0<n∧n=nm.size)=P):=⟨_,hid rfl⟩
    have hpl:=hid (fun u=>plainR22_calls nm (by omega) n (hid hn) P hP u)
    have hn':=hid hn
    clear hn
    cases P with
    | true =>
     have hc:=of_decide_eq_true hP.out
     have hTw:=hid (show IsWr ⟨1,nm,pl⟩ (⟨#[46]⟩++nm) from .inl ⟨rfl,n,hn'.out,.inl ⟨hc,rfl⟩⟩)
     have hTl:=hid (hlen.out _ hTw.out)
     have q1:¬ 9223372036854775807<1+nm.size:=by omega
     clear hc hlen hn1 hn2
     go_wp2_with fail
     refine Calls.mono (hpl.out _) ?_
     rintro e w3 ⟨rfl,b3⟩
     have B3:=hid (hb.out.trans (b3.mono hb.out.size))
     have D3:=hid (hD.out.kept b3)
     have d1:w3.cell? ⟨g,o+i*3+1,none⟩=some (.string nm):=(b3.cell (p:=⟨g,o+i*3+1,none⟩) ee.out).trans c1
     clear b3 hpl hD hb c0 c1 c2 ee
     have hT0:Hid (0<(⟨#[46]⟩++nm).size):=hid (by simp only [ByteArray.size_append];have:(⟨#[46]⟩:ByteArray).size=1:=rfl;omega)
     go_wp2_with (first | (at_builtin;refine wpList_bytS rfl _ _ rfl w.heap.size _ (36 :: l) rfl D3.out (⟨#[46]⟩++nm) rfl hT0.out (by have:=hll.out;have:=hTl.out;rw [List.length_cons];omega) B3.out.size ?_;intro v' w' h1 hg1;have D5:=hid (show BytH w.heap.size w' v' (36 :: (l++(⟨#[46]⟩++nm).data.toList)) from .inl h1);have B5:=hid (B3.out.grown hg1 B3.out.size (fun b e=>D3.out.blk b e));clear h1 hg1 D3 B3) | fail)
     have hln:Hid ((l++(⟨#[46]⟩++nm).data.toList).length≤(i+1)*6291500):=hid (by
      have h1:=hL.out
      have h2:=hTl.out
      have h3:(⟨#[46]⟩++nm).data.toList.length=(⟨#[46]⟩++nm).size:=by rw [Array.length_toList];rfl
      rw [List.length_append,h3]
      omega)
     go_roundw
     case rel=>exact ⟨i+1,l++(⟨#[46]⟩++nm).data.toList,hlt'.out,by simp,hid (by rw [htk.out];exact .snoc hW.out hTw.out),hln,D5,B5⟩
     case measure=>simp [intOf];have:=hlt'.out;omega
    | false =>
     have hc:=of_decide_eq_false hP.out
     obtain ⟨T,E,hU⟩:∃ T E,wrS nm=(T,E):=⟨_,_,rfl⟩
     have he:=hid (fun u=>refEs_calls nm (by omega) T E (hid hU) u)
     have hTw:=hid (show IsWr ⟨1,nm,pl⟩ ((⟨#[91,34]⟩++T)++⟨#[34,93]⟩) from .inl ⟨rfl,n,hn'.out,.inr ⟨hc,by rw [hU]⟩⟩)
     have hTl:=hid (hlen.out _ hTw.out)
     have hT6:T.size≤6*nm.size:=by have:=wrS22_len nm;rw [hU] at this;exact this
     have q1:¬ 9223372036854775807<2+T.size:=by omega
     have q2:¬ 9223372036854775807<2+T.size+2:=by omega
     clear hc hlen hn1 hn2 hU hT6
     go_wp2_with fail
     refine Calls.mono (hpl.out _) ?_
     rintro e w3 ⟨rfl,b3⟩
     have B3:=hid (hb.out.trans (b3.mono hb.out.size))
     have D3:=hid (hD.out.kept b3)
     have d1:w3.cell? ⟨g,o+i*3+1,none⟩=some (.string nm):=(b3.cell (p:=⟨g,o+i*3+1,none⟩) ee.out).trans c1
     clear b3 hpl hD hb c0 c1 c2 ee
     go_wp2_with fail
     refine Calls.mono (he.out _) ?_
     rintro e w4 ⟨rfl,b4⟩
     have B4:=hid (B3.out.trans (b4.mono B3.out.size))
     have D4:=hid (D3.out.kept b4)
     clear b4 he D3 B3 d1
     have hT0:Hid (0<((⟨#[91,34]⟩++T)++⟨#[34,93]⟩).size):=hid (by simp only [ByteArray.size_append];have:(⟨#[91,34]⟩:ByteArray).size=2:=rfl;omega)
     go_wp2_with (first | (at_builtin;refine wpList_bytS rfl _ _ rfl w.heap.size _ (36 :: l) rfl D4.out ((⟨#[91,34]⟩++T)++⟨#[34,93]⟩) rfl hT0.out (by have:=hll.out;have:=hTl.out;rw [List.length_cons];omega) B4.out.size ?_;intro v' w' h1 hg1;have D5:=hid (show BytH w.heap.size w' v' (36 :: (l++((⟨#[91,34]⟩++T)++⟨#[34,93]⟩).data.toList)) from .inl h1);have B5:=hid (B4.out.grown hg1 B4.out.size (fun b e=>D4.out.blk b e));clear h1 hg1 D4 B4) | fail)
     have hln:Hid ((l++((⟨#[91,34]⟩++T)++⟨#[34,93]⟩).data.toList).length≤(i+1)*6291500):=hid (by
      have h1:=hL.out
      have h2:=hTl.out
      have h3:((⟨#[91,34]⟩++T)++⟨#[34,93]⟩).data.toList.length=((⟨#[91,34]⟩++T)++⟨#[34,93]⟩).size:=by rw [Array.length_toList];rfl
      rw [List.length_append,h3]
      omega)
     go_roundw
     case rel=>exact ⟨i+1,l++((⟨#[91,34]⟩++T)++⟨#[34,93]⟩).data.toList,hlt'.out,by simp,hid (by rw [htk.out];exact .snoc hW.out hTw.out),hln,D5,B5⟩
     case measure=>simp [intOf];have:=hlt'.out;omega
   ·have hi2:=hid (fun u (h:PowT u)=>itoa_calls pl hn2.1 hn2.2 u h)
    have hil:=Lib.itoa_length_le pl hn2.1 hn2.2
    generalize hI:Lib.itoa pl=I at hi2 hil
    have hs2:(⟨I.toArray⟩:ByteArray).size≤21:=by show I.toArray.size≤21;simpa using hil
    generalize hIT:(⟨I.toArray⟩:ByteArray)=T at hi2 hs2
    have hTw:=hid (show IsWr ⟨2,nm,pl⟩ ((⟨#[91]⟩++T)++⟨#[93]⟩) from .inr (.inl ⟨rfl,by rw [hI,hIT]⟩))
    have hTl:=hid (hlen.out _ hTw.out)
    have q1:¬ 9223372036854775807<1+T.size:=by omega
    have q2:¬ 9223372036854775807<1+T.size+1:=by omega
    have hP2:=hid (hPw.out.kept hb.out)
    clear hlen hn1 hn2 hI hIT hil hs2
    go_wp2_with fail
    refine Calls.mono (hi2.out _ hP2.out) ?_
    rintro e w3 ⟨rfl,b3⟩
    have B3:=hid (hb.out.trans (b3.mono hb.out.size))
    have D3:=hid (hD.out.kept b3)
    clear b3 hi2 hD hb c0 c1 c2 ee hP2
    have hT0:Hid (0<((⟨#[91]⟩++T)++⟨#[93]⟩).size):=hid (by simp only [ByteArray.size_append];have:(⟨#[91]⟩:ByteArray).size=1:=rfl;omega)
    go_wp2_with (first | (at_builtin;refine wpList_bytS rfl _ _ rfl w.heap.size _ (36 :: l) rfl D3.out ((⟨#[91]⟩++T)++⟨#[93]⟩) rfl hT0.out (by have:=hll.out;have:=hTl.out;rw [List.length_cons];omega) B3.out.size ?_;intro v' w' h1 hg1;have D5:=hid (show BytH w.heap.size w' v' (36 :: (l++((⟨#[91]⟩++T)++⟨#[93]⟩).data.toList)) from .inl h1);have B5:=hid (B3.out.grown hg1 B3.out.size (fun b e=>D3.out.blk b e));clear h1 hg1 D3 B3) | fail)
    have hln:Hid ((l++((⟨#[91]⟩++T)++⟨#[93]⟩).data.toList).length≤(i+1)*6291500):=hid (by
     have h1:=hL.out
     have h2:=hTl.out
     have h3:((⟨#[91]⟩++T)++⟨#[93]⟩).data.toList.length=((⟨#[91]⟩++T)++⟨#[93]⟩).size:=by rw [Array.length_toList];rfl
     rw [List.length_append,h3]
     omega)
    go_roundw
    case rel=>exact ⟨i+1,l++((⟨#[91]⟩++T)++⟨#[93]⟩).data.toList,hlt'.out,by simp,hid (by rw [htk.out];exact .snoc hW.out hTw.out),hln,D5,B5⟩
    case measure=>simp [intOf];have:=hlt'.out;omega
   ·have hTw:=hid (show IsWr ⟨3,nm,pl⟩ ⟨#[46,42]⟩ from .inr (.inr ⟨⟨show (3:Int)≠1 by decide,show (3:Int)≠2 by decide⟩,rfl⟩))
    have hTl:=hid (hlen.out _ hTw.out)
    clear hlen hn1 hn2
    have hT0:Hid (0<((⟨#[46,42]⟩:ByteArray)).size):=hid (by decide)
    go_wp2_with (first | (at_builtin;refine wpList_bytS rfl _ _ rfl w.heap.size _ (36 :: l) rfl hD.out ((⟨#[46,42]⟩:ByteArray)) rfl hT0.out (by have:=hll.out;have:=hTl.out;rw [List.length_cons];omega) hb.out.size ?_;intro v' w' h1 hg1;have D5:=hid (show BytH w.heap.size w' v' (36 :: (l++((⟨#[46,42]⟩:ByteArray)).data.toList)) from .inl h1);have B5:=hid (hb.out.grown hg1 hb.out.size (fun b e=>hD.out.blk b e));clear h1 hg1 hD hb) | fail)
    have hln:Hid ((l++((⟨#[46,42]⟩:ByteArray)).data.toList).length≤(i+1)*6291500):=hid (by
     have h1:=hL.out
     have h2:=hTl.out
     have h3:((⟨#[46,42]⟩:ByteArray)).data.toList.length=((⟨#[46,42]⟩:ByteArray)).size:=by rw [Array.length_toList];rfl
     rw [List.length_append,h3]
     omega)
    go_roundw
    case rel=>exact ⟨i+1,l++((⟨#[46,42]⟩:ByteArray)).data.toList,hlt'.out,by simp,hid (by rw [htk.out];exact .snoc hW.out hTw.out),hln,D5,B5⟩
    case measure=>simp [intOf];have:=hlt'.out;omega
  ·obtain rfl:i=N:=by omega
   have hfin:=hid (show Wrs ss l by have:=hW.out;rwa [List.take_of_length_le (by rw [hN.out];exact Nat.le_refl _)] at this)
   have hcv:=hD.out.conv
   generalize hz:(36 :: l)=z at hD hcv ⊢
   have hz':=hid hz
   clear hz
   go_wp2
   go_ret2
   exact ⟨⟨l,by rw [hz'.out];rfl,hfin.out⟩,hb.out⟩
end Go.Proofs.YtjcpamjeekfblaaGreatDoor
