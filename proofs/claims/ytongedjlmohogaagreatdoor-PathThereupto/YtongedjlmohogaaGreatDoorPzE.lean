import Derived.Test.YtongedjlmohogaaGreatDoorPzB
import Derived.Test.YtongedjlmohogaaGreatDoorPyN
import Derived.Test.YtongedjlmohogaaGreatDoorPwF
namespace Go.Proofs.YtongedjlmohogaaGreatDoor
open Go.RowKit Go.Shelf
def AwI (w:World) (nb G:Nat) (r:Nat) (W:World):Prop:=(r≤1∧At W w.heap.size #[.bool false] 4∧At W nb #[.int .i64 (r:Int)] 3∧G≤W.heap.size)∧Below w.heap.size w W
def AwG (T:Array Value) (y:List UInt8 × Nat × Array Value):Act :=
 { tmps:=(((T.setIfInBounds 66 (.string (mkL y.1))).setIfInBounds 67 (.agg y.2.2)).setIfInBounds 11 (.string (mkL y.1))).setIfInBounds 12 (.pointer (some ⟨y.2.1,0,none⟩)),defers:=[] }
theorem awI_free {w:World} {nb G:Nat} (h1:w.heap.size<G) (h2:nb<G):BFree G (AwI w nb G):=fun r W W' h hb=>by
 obtain ⟨⟨a,c,d,e⟩,f⟩:=h
 exact ⟨⟨a,c.belowB hb (by omega),d.belowB hb h2,Nat.le_trans e hb.size⟩,f.trans (hb.mono (by omega))⟩
attribute [local go_sem] Oper.semAt_some
theorem fd_len:∀ x ∈ fdP stepsW sampT [],x.1.length≤140737488355328:=fun x hx=>by
 rw [fd_samp] at hx
 simp only [List.mem_cons,List.not_mem_nil,or_false] at hx
 subst hx
 decide
theorem steps2_at {w:World} {b:Nat} {t:TypeId} (h:At w b #[.int .i64 3,.string ⟨#[]⟩,.int .i64 0,.int .i64 1,.string ⟨#[98]⟩,.int .i64 0] t):StepsAt w (some ⟨b,0,none⟩) stepsW:=fun i s hi=>by
 match i,hi with
 | 0,hi =>
  simp [stepsW] at hi
  subst hi
  refine ⟨by decide,b,0,rfl,h.lt,fun j y hj=>?_⟩
  have:=h.cell j
  match j,hj with
  | 0,hj=>rw [show (0+0*3+0:Nat)=0 from rfl,h.cell 0];exact hj
  | 1,hj=>rw [show (0+0*3+1:Nat)=1 from rfl,h.cell 1];exact hj
  | 2,hj=>rw [show (0+0*3+2:Nat)=2 from rfl,h.cell 2];exact hj
  | j+3,hj=>simp at hj
 | 1,hi =>
  simp [stepsW] at hi
  subst hi
  refine ⟨by decide,b,0,rfl,h.lt,fun j y hj=>?_⟩
  match j,hj with
  | 0,hj=>rw [show (0+1*3+0:Nat)=3 from rfl,h.cell 3];exact hj
  | 1,hj=>rw [show (0+1*3+1:Nat)=4 from rfl,h.cell 4];exact hj
  | 2,hj=>rw [show (0+1*3+2:Nat)=5 from rfl,h.cell 5];exact hj
  | j+3,hj=>simp at hj
 | i+2,hi=>simp [stepsW] at hi
end Go.Proofs.YtongedjlmohogaaGreatDoor
