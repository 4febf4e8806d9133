import Derived.Test.YtjcpamjeekfblaaGreatDoorPack1
import Derived.Test.YtjcpamjeekfblaaGreatDoorPack17
import Derived.Test.YtjcpamjeekfblaaGreatDoorPyN
import Derived.Test.YtjcpamjeekfblaaGreatDoorPwF
namespace Go.Proofs.YtjcpamjeekfblaaGreatDoor
open Go.RowKit Go.Shelf
set_option maxRecDepth 10000 in
set_option maxHeartbeats 4000000 in
theorem takesR22_calls (s:Stp) (nm:ByteArray) (pl:Int) (ob:Bool) (w:World):Calls Tryz.prog 19 #[.agg #[.int .i64 s.kind,.string s.name,.int .i64 s.place],.string nm,.int .i64 pl,.bool ob] w fun e w'=>e = .returned (.bool (tkS s nm pl ob))∧Below w.heap.size w w':=by
 obtain ⟨k,n0,p0⟩:=s
 dsimp only
 by_cases h1:k=1
 ·subst h1
  have e:tkS ⟨1,n0,p0⟩ nm pl ob=(ob && decide (n0=nm)):=rfl
  rw [e,← eq_str]
  clear e
  cases ob with
  | true =>
   go_enter Tryz.func19,Tryz.ntmps19
   go_wp2
   go_ret
   exact ⟨rfl,by exact bw⟩
  | false =>
   go_enter Tryz.func19,Tryz.ntmps19
   go_wp2
   go_ret
   exact ⟨rfl,by exact bw⟩
 ·have b1:(k == 1)=false:=beq_eq_false_iff_ne.2 h1
  by_cases h2:k=2
  ·subst h2
   have e:tkS ⟨2,n0,p0⟩ nm pl ob=(!ob && (p0 == pl)):=by
    show (!ob && decide (p0=pl))=_
    congr 1
   rw [e]
   clear e
   cases ob with
   | true =>
    go_enter Tryz.func19,Tryz.ntmps19
    go_wp2
    go_ret
    exact ⟨rfl,by exact bw⟩
   | false =>
    go_enter Tryz.func19,Tryz.ntmps19
    go_wp2
    go_ret
    exact ⟨rfl,by exact bw⟩
  ·have b2:(k == 2)=false:=beq_eq_false_iff_ne.2 h2
   by_cases h3:k=3
   ·subst h3
    have e':tkS ⟨3,n0,p0⟩ nm pl ob=true:=rfl
    rw [e']
    clear e'
    go_enter Tryz.func19,Tryz.ntmps19
    go_wp2
    go_ret
    exact ⟨rfl,by exact bw⟩
   ·have b3:(k == 3)=false:=beq_eq_false_iff_ne.2 h3
    have e':tkS ⟨k,n0,p0⟩ nm pl ob=false:=by unfold tkS;rw [if_neg h1,if_neg h2];exact decide_eq_false h3
    rw [e']
    clear e' h1 h2 h3
    go_enter Tryz.func19,Tryz.ntmps19
    go_wp2
    go_ret
    exact ⟨rfl,by exact bw⟩
set_option maxRecDepth 10000 in
set_option maxHeartbeats 4000000 in
theorem takes22_calls (s:Stp) (nm:ByteArray) (pl:Int) (ob:Bool) (w:World):Calls Tryz.prog 18 #[.agg #[.int .i64 s.kind,.string s.name,.int .i64 s.place],.string nm,.int .i64 pl,.bool ob] w fun e w'=>e = .returned (.bool (tkS s nm pl ob))∧Below w.heap.size w w':=by
 have hof:=hid (fun u=>of22_calls s u)
 have htk:=hid (fun u=>takesI_calls s nm pl ob u)
 generalize hk:tkS s nm pl ob=T at htk ⊢
 generalize hx:ifV s=X at hof htk
 obtain ⟨k,n0,p0⟩:=s
 dsimp only at hof ⊢
 have A1:=hid (At.new w #[.int .i64 k,.string n0,.int .i64 p0] 34)
 have B1:=hid (show Below w.heap.size w (w.alloc (.cells #[.int .i64 k,.string n0,.int .i64 p0] 34)) from (Below.refl _ w).alloc (Nat.le_refl _) _)
 clear hk hx
 go_enter Tryz.func18,Tryz.ntmps18
 go_wp2_with (first | refine wpList_load_want 34 _ w.heap.size 0 [.int .i64 k,.string n0,.int .i64 p0] _ (A1.out.range rfl) Tryz.underlying34 sizeStp rfl rfl rfl (by rfl) ?_ | fail)
 refine Calls.mono (hof.out _) ?_
 rintro e w2 ⟨rfl,b2⟩
 have B2:=hid (B1.out.trans (b2.mono B1.out.size))
 clear b2 hof A1 B1
 go_wp2_with fail
 refine Calls.mono (htk.out _) ?_
 rintro e w3 ⟨rfl,b3⟩
 have B3:=hid (B2.out.trans (b3.mono B2.out.size))
 clear b3 htk B2
 go_wp2
 go_ret
 exact ⟨rfl,B3.out⟩
def AwI (w:World) (nb G:Nat) (r:Nat) (W:World):Prop:=(r≤1∧At W w.heap.size #[.bool false] 4∧At W nb #[.int .i64 (r:Int)] 3∧G≤W.heap.size)∧Below w.heap.size w W
def AwG (T:Array Value) (y:List UInt8 × Nat × Array Value):Act :=
 { tmps:=(((T.setIfInBounds 66 (.string (mkL y.1))).setIfInBounds 67 (.agg y.2.2)).setIfInBounds 11 (.string (mkL y.1))).setIfInBounds 12 (.pointer (some ⟨y.2.1,0,none⟩)),defers:=[] }
theorem awI_free {w:World} {nb G:Nat} (h1:w.heap.size<G) (h2:nb<G):BFree G (AwI w nb G):=fun r W W' h hb=>by
 obtain ⟨⟨a,c,d,e⟩,f⟩:=h
 exact ⟨⟨a,c.belowB hb (by omega),d.belowB hb h2,Nat.le_trans e hb.size⟩,f.trans (hb.mono (by omega))⟩
attribute [local go_sem] Oper.semAt_some
theorem fd_len:∀ x ∈ fdP stepsW sampT [],x.1.length≤140737488355328:=fun x hx=>by
 rw [fd_samp] at hx
 simp only [List.mem_cons,List.not_mem_nil,or_false] at hx
 subst hx
 decide
theorem steps2_at {w:World} {b:Nat} {t:TypeId} (h:At w b #[.int .i64 3,.string ⟨#[]⟩,.int .i64 0,.int .i64 1,.string ⟨#[98]⟩,.int .i64 0] t):StepsAt w (some ⟨b,0,none⟩) stepsW:=fun i s hi=>by
 match i,hi with
 | 0,hi =>
  simp [stepsW] at hi
  subst hi
  refine ⟨by decide,b,0,rfl,h.lt,fun j y hj=>?_⟩
  have:=h.cell j
  match j,hj with
  | 0,hj=>rw [show (0+0*3+0:Nat)=0 from rfl,h.cell 0];exact hj
  | 1,hj=>rw [show (0+0*3+1:Nat)=1 from rfl,h.cell 1];exact hj
  | 2,hj=>rw [show (0+0*3+2:Nat)=2 from rfl,h.cell 2];exact hj
  | j+3,hj=>simp at hj
 | 1,hi =>
  simp [stepsW] at hi
  subst hi
  refine ⟨by decide,b,0,rfl,h.lt,fun j y hj=>?_⟩
  match j,hj with
  | 0,hj=>rw [show (0+1*3+0:Nat)=3 from rfl,h.cell 3];exact hj
  | 1,hj=>rw [show (0+1*3+1:Nat)=4 from rfl,h.cell 4];exact hj
  | 2,hj=>rw [show (0+1*3+2:Nat)=5 from rfl,h.cell 5];exact hj
  | j+3,hj=>simp at hj
 | i+2,hi=>simp [stepsW] at hi
end Go.Proofs.YtjcpamjeekfblaaGreatDoor
