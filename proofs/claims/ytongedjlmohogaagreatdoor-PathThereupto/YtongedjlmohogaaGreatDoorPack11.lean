/-
  Texts of mine that others lean on, one behind the other.
-/
import Derived.Test.YtongedjlmohogaaGreatDoorPack7
import Derived.Test.YtongedjlmohogaaGreatDoorPack1
import Derived.WalkMore
import Derived.ScopeJumps
import Derived.Test.YtongedjlmohogaaGreatDoorPack5
import Derived.Deep.DeepCutAuto
import Derived.Test.YtongedjlmohogaaGreatDoorPack8
import Derived.Deep.RegionHeld
import Derived.Deep.Quiet
import Derived.Test.YtongedjlmohogaaGreatDoorPack9
import Derived.Test.YtongedjlmohogaaGreatDoorPack10
import Derived.Laws.OwnMore
import Derived.Deep.DeepAppendRoom
import Derived.Deep.Onto
/- A scope with several labels: what holds at each of them,and a number that every way from label to label lowers. -/
namespace Go.Proofs.YtongedjlmohogaaGreatDoor
open Go.RowKit
def jumps (J:Nat→Act→World→Prop) (Q:Exit→Act→World→Prop):Exit→Act→World→Prop
  | .goto l,a,w=>J l a w
  | e,a,w=>Q e a w
theorem jumps_mono {J J':Nat→Act→World→Prop} {Q:Exit→Act→World→Prop} (h:∀ l a w,J l a w→J' l a w):∀ e a w,jumps J Q e a w→jumps J' Q e a w
  | .goto l,a,w,hq=>h l a w hq
  | .normal,_,_,hq=>hq
  | .exit _,_,_,hq=>hq
  | .ret,_,_,hq=>hq
  | .panic _,_,_,hq=>hq
  | .outgrown,_,_,hq=>hq
section
variable {P:Program} {a:Act} {w:World} {Q:Exit→Act→World→Prop}
theorem scope_labels {c : Code} (R : Nat → Code) (J : Nat → Act → World → Prop) (μ : Nat → Act → World → Nat) (hf : ∀ l a w, J l a w → findLabel c l = some (Code.seq .skip (R l)))
    (pass:∀ l a w,J l a w→(∀ l' a' w',J l' a' w'→μ l' a' w'<μ l a w→(R l').wp P (jumps (fun l₂ a₂ w₂=>J l₂ a₂ w₂∧μ l₂ a₂ w₂<μ l a w) Q) a' w') →
      (R l).wp P (jumps (fun l' a' w'=>J l' a' w'∧μ l' a' w'<μ l a w) Q) a w)
    (first:(∀ l a w,J l a w→(R l).wp P (jumps J Q) a w)→c.wp P (jumps J Q) a w):(Code.scope c).wp P Q a w:=by
  have all:∀ n l a w,μ l a w=n→J l a w→(R l).wp P (jumps (fun l' a' w'=>J l' a' w'∧μ l' a' w'<μ l a w) Q) a w:=by
    intro n
    induction n using Nat.strongRecOn with
    | _ n ih =>
      intro l a w hn hJ
      refine pass l a w hJ fun l' a' w' hJ' hlt=>wp_mono (ih _ (by omega) l' a' w' rfl hJ') (jumps_mono fun l₂ a₂ w₂ h=>⟨h.1,by omega⟩)
  have first':=first fun l a w hJ=>wp_mono (all _ l a w rfl hJ) (jumps_mono fun _ _ _ h=>h.1)
  intro b k cs
  have hg:∀ l a w,J l a w→gotoIn l (.inScope c :: k)=some (.code (Code.seq .skip (R l)) :: .inScope c :: k):=fun l a w hJ=>by simp [gotoIn,hf l a w hJ]
  have key:∀ n l a w,μ l a w=n→J l a w→∃ e a' w',Q e a' w'∧Arrives P (lone (b.at a (.code (Code.seq .skip (R l)) :: .inScope c :: k)) cs w) b k cs e a' w':=by
    intro n
    induction n using Nat.strongRecOn with
    | _ n ih =>
      intro l a w hn hJ
      have hw:(Code.seq .skip (R l)).wp P (jumps (fun l' a' w'=>J l' a' w'∧μ l' a' w'<μ l a w) Q) a w:=wp_seq (wp_skip (all _ l a w rfl hJ))
      obtain ⟨e,a₁,w₁,hq,harr⟩:=hw b (.inScope c :: k) cs
      cases e with
      | normal=>exact ⟨.normal,a₁,w₁,hq,Steps.trans harr (.one step_inScope)⟩
      | exit id=>exact ⟨.exit id,a₁,w₁,hq,fun k' hk=>harr k' (by simp [exitTo,hk])⟩
      | goto l' =>
        obtain ⟨hJ',hlt⟩:=hq
        obtain ⟨e₂,a₂,w₂,hq₂,harr₂⟩:=ih _ (by omega) l' a₁ w₁ rfl hJ'
        exact ⟨e₂,a₂,w₂,hq₂,.of_steps (harr _ (hg l' a₁ w₁ hJ')) harr₂⟩
      | ret=>exact ⟨_,a₁,w₁,hq,harr⟩
      | panic ch=>exact ⟨_,a₁,w₁,hq,harr⟩
      | outgrown=>exact ⟨_,a₁,w₁,hq,harr⟩
  obtain ⟨e,a₁,w₁,hq,harr⟩:=first' b (.inScope c :: k) cs
  cases e with
  | normal=>exact ⟨.normal,a₁,w₁,hq,.head step_scope (Steps.trans harr (.one step_inScope))⟩
  | exit id=>exact ⟨.exit id,a₁,w₁,hq,fun k' hk=>.head step_scope (harr k' (by simp [exitTo,hk]))⟩
  | goto l =>
    obtain ⟨e₂,a₂,w₂,hq₂,harr₂⟩:=key _ l a₁ w₁ rfl hq
    exact ⟨e₂,a₂,w₂,hq₂,.of_steps (.head step_scope (harr _ (hg l a₁ w₁ hq))) harr₂⟩
  | ret=>exact ⟨_,a₁,w₁,hq,.of_steps (.one step_scope) harr⟩
  | panic ch=>exact ⟨_,a₁,w₁,hq,.of_steps (.one step_scope) harr⟩
  | outgrown=>exact ⟨_,a₁,w₁,hq,.of_steps (.one step_scope) harr⟩
end
def codeOf (c:Code) (l:Nat):Code:=match findLabel c l with | some (.seq _ r)=>r | _=>.skip
theorem scope_codes {P : Program} {a : Act} {w : World} {Q : Exit → Act → World → Prop} {c : Code} (J : Nat → Act → World → Prop) (μ : Nat → Act → World → Nat) (hf : ∀ l a w, J l a w → findLabel c l = some (Code.seq .skip (codeOf c l)))
    (pass:∀ l a w,J l a w→(∀ l' a' w',J l' a' w'→μ l' a' w'<μ l a w→(codeOf c l').wp P (jumps (fun l₂ a₂ w₂=>J l₂ a₂ w₂∧μ l₂ a₂ w₂<μ l a w) Q) a' w') →
      (codeOf c l).wp P (jumps (fun l' a' w'=>J l' a' w'∧μ l' a' w'<μ l a w) Q) a w)
    (first:(∀ l a w,J l a w→(codeOf c l).wp P (jumps J Q) a w)→c.wp P (jumps J Q) a w):(Code.scope c).wp P Q a w :=
  scope_labels (codeOf c) J μ hf pass first
theorem results_ctt {fn : Func} {p u v : Tmp} {ty : TypeId} (h : fn.results = #[.cell p ty, .tmp u, .tmp v]) (tmps : Array Value) (P : Program) (w : World) :
    (results fn tmps).run P w =
      ((asAddr (tmps.getD p undef)).run P w).andThen fun a w₁=>((loadVar ty a).run P w₁).andThen fun x w₂=>.ok (.tuple #[x,tmps.getD u undef,tmps.getD v undef]) w₂:=by
  simp only [results,h]
  simp [Sem.run_bind,Result.andThen]
end Go.Proofs.YtongedjlmohogaaGreatDoor
/- What decimal.Formed and the reference's Formed answer. -/
namespace Go.Proofs.YtongedjlmohogaaGreatDoor
open Go.RowKit Go.Shelf
theorem digitD_calls (x : Nat) (B : Bool) (hB : Hid (dgB x = B)) (w : World) :
    Calls Tryz.prog 172 #[.int .u8 (x:Int)] w fun e w'=>e = .returned (.bool B)∧w'=w:=by
  go_enter Tryz.func172,Tryz.ntmps172
  have hb:=hB.out
  clear hB
  by_cases h1:48≤x
  · by_cases h2:x≤57
    · have e:B=true:=by rw [← hb];exact (dgB_iff x).2 ⟨h1,h2⟩
      subst e
      have e1:decide ((48:Int)≤(x:Int))=true:=by simp;omega
      have e2:decide ((x:Int)≤57)=true:=by simp;omega
      clear hb
      go_wp2
      go_ret
      exact ⟨by simp;try omega,rfl⟩
    · have e:B=false:=by rw [← hb];unfold dgB;simp;omega
      subst e
      have e1:decide ((48:Int)≤(x:Int))=true:=by simp;omega
      have e2:decide ((x:Int)≤57)=false:=by simp;omega
      clear hb
      go_wp2
      go_ret
      exact ⟨by simp;try omega,rfl⟩
  · have e:B=false:=by rw [← hb];unfold dgB;simp;omega
    subst e
    have e1:decide ((48:Int)≤(x:Int))=false:=by simp;omega
    clear hb
    go_wp2
    go_ret
    exact ⟨by simp,rfl⟩
theorem inBd_calls (x : Int) (B : Bool) (hB : Hid (inB x = B)) (w : World) :
    Calls Tryz.prog 176 #[.int .i64 x] w fun e w'=>e = .returned (.bool B)∧w'=w:=by
  go_enter Tryz.func176,Tryz.ntmps176
  have hb:=hB.out
  clear hB
  by_cases h1:-1073741824≤x
  · by_cases h2:x≤1073741824
    · have e:B=true:=by rw [← hb];unfold inB;simp;omega
      subst e
      clear hb
      go_wp2
      go_ret
      exact ⟨by simp;try omega,rfl⟩
    · have e:B=false:=by rw [← hb];unfold inB;simp;omega
      subst e
      clear hb
      go_wp2
      go_ret
      exact ⟨by simp;try omega,rfl⟩
  · have e:B=false:=by rw [← hb];unfold inB;simp;omega
    subst e
    clear hb
    go_wp2
    go_ret
    exact ⟨by simp;try omega,rfl⟩
end Go.Proofs.YtongedjlmohogaaGreatDoor
/- What decimal.scan answers. -/
namespace Go.Proofs.YtongedjlmohogaaGreatDoor
open Go.RowKit Go.Shelf
theorem look_calls (s : ByteArray) (i : Nat) (I : Int) (hI : I = (i : Int)) (x : Nat) (hx : Hid (lk s i = x)) (w : World) :
    Calls Tryz.prog 171 #[.string s,.int .i64 I] w fun e w'=>e = .returned (.int .u8 (x:Int))∧w'=w:=by
  subst hI
  go_enter Tryz.func171,Tryz.ntmps171
  by_cases hi:i<s.size
  · have e0:decide ((i:Int)<(s.size:Int))=true:=by simp;omega
    have hiI:(i:Int)<(s.size:Int):=by omega
    obtain ⟨y,hy⟩:∃ y,s[i].toNat=y:=⟨_,rfl⟩
    have hb:y=x:=by rw [← hx.out,lk_at s i hi,hy]
    clear hx
    go_wp2
    go_ret
    exact ⟨by first | rfl | (rw [← hb];rfl) | (subst hb;rfl),rfl⟩
  · have e0:decide ((i:Int)<(s.size:Int))=false:=by simp;omega
    have hb:x=0:=by rw [← hx.out,lk_out s i (by omega)]
    subst hb
    clear hx
    go_wp2
    go_ret
    exact ⟨rfl,rfl⟩
def numV (n:Num):Value:=.agg #[.bool n.neg,.string n.wh,.string n.be,.bool n.dn,.string n.pw]
def noNum:Num:=⟨false,⟨#[]⟩,⟨#[]⟩,false,⟨#[]⟩⟩
def scV (s:ByteArray) (p:Nat):Value:=match scanS s p with
  | (none,e)=>.tuple #[numV noNum,.int .i64 (e:Int),.bool false]
  | (some n,e)=>.tuple #[numV n,.int .i64 (e:Int),.bool true]
theorem scV_none {s:ByteArray} {p e:Nat} (h:scanS s p=(none,e)):scV s p = .tuple #[numV noNum,.int .i64 (e:Int),.bool false]:=by rw [scV,h]
theorem scV_some {s:ByteArray} {p e:Nat} {n:Num} (h:scanS s p=(some n,e)):scV s p = .tuple #[numV n,.int .i64 (e:Int),.bool true]:=by rw [scV,h]
theorem sizePs:(Tryz.prog.info? 194).map (·.size)=some 5:=by kernel_rfl
theorem load_ps {w:World} {b:Nat} {x0 x1 x2 x3 x4:Value} (h:At w b #[x0,x1,x2,x3,x4] 194):(loadVar 194 ⟨b,0,none⟩).run Tryz.prog w = .ok (.agg #[x0,x1,x2,x3,x4]) w :=
  run_loadVar_row (P:=Tryz.prog) w b 194 194 #[x0,x1,x2,x3,x4] (0,0) _ h Tryz.underlying194 rfl sizePs
theorem ret_ps {fn : Func} {p u v : Tmp} {R : Ending → World → Prop} {a : Act} {w : World} {b : Nat} {x0 x1 x2 x3 x4 : Value} (hres : fn.results = #[.cell p 194, .tmp u, .tmp v]) (hp : a.tmps.getD p undef = .pointer (some ⟨b, 0, none⟩))
    (h:At w b #[x0,x1,x2,x3,x4] 194) (hd:a.defers=[]) (hR:R (.returned (.tuple #[.agg #[x0,x1,x2,x3,x4],a.tmps.getD u undef,a.tmps.getD v undef])) w):bodyPost Tryz.prog fn R .ret a w:=by
  refine bodyPost_ret (v:=.tuple #[.agg #[x0,x1,x2,x3,x4],a.tmps.getD u undef,a.tmps.getD v undef]) ?_ hd hR
  rw [results_ctt hres,hp]
  simp [asAddr,load_ps h]
theorem At.fiveD {w:World} {b:Nat} {x0 x1 x2 x3 x4 y0 y1 y2 y3 y4:Value} {t:TypeId} (h:At w b #[x0,x1,x2,x3,x4] t):At (((((w.setCell ⟨b,0,none⟩ y0).setCell ⟨b,1,none⟩ y1).setCell ⟨b,2,none⟩ y2).setCell ⟨b,3,none⟩ y3).setCell ⟨b,4,none⟩ y4) b #[y0,y1,y2,y3,y4] t:=by
  have:=((((h.set 0 y0).set 1 y1).set 2 y2).set 3 y3).set 4 y4
  simpa using this
def Pt (w0:World) (b:Nat) (n:Bool) (t1 t2:ByteArray) (d:Bool) (t3:ByteArray) (w:World):Prop:=w0.heap.size≤b∧At w b #[.bool n,.string t1,.string t2,.bool d,.string t3] 194∧Below w0.heap.size w0 w
section
variable {w0:World} {b:Nat} {n:Bool} {t1 t2:ByteArray} {d:Bool} {t3:ByteArray} {w:World}
theorem Pt.facts (h : Pt w0 b n t1 t2 d t3 w) : (w.cell? ⟨b, 0, none⟩ = some (.bool n) ∧ w.cell? ⟨b, 1, none⟩ = some (.string t1) ∧ w.cell? ⟨b, 2, none⟩ = some (.string t2) ∧ w.cell? ⟨b, 3, none⟩ = some (.bool d) ∧ w.cell? ⟨b, 4, none⟩ = some (.string t3)) ∧
    (w.frozen? ⟨b,0,none⟩=false∧w.frozen? ⟨b,1,none⟩=false∧w.frozen? ⟨b,2,none⟩=false∧w.frozen? ⟨b,3,none⟩=false∧w.frozen? ⟨b,4,none⟩=false) :=
  ⟨⟨h.2.1.cell 0,h.2.1.cell 1,h.2.1.cell 2,h.2.1.cell 3,h.2.1.cell 4⟩,h.2.1.frozen 0,h.2.1.frozen 1,h.2.1.frozen 2,h.2.1.frozen 3,h.2.1.frozen 4⟩
theorem Pt.set0 (h:Pt w0 b n t1 t2 d t3 w) (n':Bool):Pt w0 b n' t1 t2 d t3 (w.setCell ⟨b,0,none⟩ (.bool n')):=⟨h.1,by have:=h.2.1.set 0 (.bool n');simpa using this,h.2.2.setCell h.1 _⟩
theorem Pt.set1 (h:Pt w0 b n t1 t2 d t3 w) (t':ByteArray):Pt w0 b n t' t2 d t3 (w.setCell ⟨b,1,none⟩ (.string t')):=⟨h.1,by have:=h.2.1.set 1 (.string t');simpa using this,h.2.2.setCell h.1 _⟩
theorem Pt.set2 (h:Pt w0 b n t1 t2 d t3 w) (t':ByteArray):Pt w0 b n t1 t' d t3 (w.setCell ⟨b,2,none⟩ (.string t')):=⟨h.1,by have:=h.2.1.set 2 (.string t');simpa using this,h.2.2.setCell h.1 _⟩
theorem Pt.set3 (h:Pt w0 b n t1 t2 d t3 w) (d':Bool):Pt w0 b n t1 t2 d' t3 (w.setCell ⟨b,3,none⟩ (.bool d')):=⟨h.1,by have:=h.2.1.set 3 (.bool d');simpa using this,h.2.2.setCell h.1 _⟩
theorem Pt.set4 (h:Pt w0 b n t1 t2 d t3 w) (t':ByteArray):Pt w0 b n t1 t2 d t' (w.setCell ⟨b,4,none⟩ (.string t')):=⟨h.1,by have:=h.2.1.set 4 (.string t');simpa using this,h.2.2.setCell h.1 _⟩
theorem Pt.all (h:Pt w0 b n t1 t2 d t3 w) (n':Bool) (t1' t2':ByteArray) (d':Bool) (t3':ByteArray):Pt w0 b n' t1' t2' d' t3' (((((w.setCell ⟨b,0,none⟩ (.bool n')).setCell ⟨b,1,none⟩ (.string t1')).setCell ⟨b,2,none⟩ (.string t2')).setCell ⟨b,3,none⟩ (.bool d')).setCell ⟨b,4,none⟩ (.string t3')) :=
  ⟨h.1,h.2.1.fiveD,((((h.2.2.setCell (p:=⟨b,0,none⟩) h.1 _).setCell (p:=⟨b,1,none⟩) h.1 _).setCell (p:=⟨b,2,none⟩) h.1 _).setCell (p:=⟨b,3,none⟩) h.1 _).setCell (p:=⟨b,4,none⟩) h.1 _⟩
end
/-! What holds at the labels. -/
section
variable (s:ByteArray) (p b:Nat) (w0:World)
def K2 (e f:Nat) (w:World):Prop:=f=scA s p∧f≤e∧e<rn s f∧lk s f≠48∧Pt w0 b (scNeg s p) ⟨#[]⟩ ⟨#[]⟩ false ⟨#[]⟩ w
def K0 (e f:Nat) (w:World):Prop:=f=scA s p∧e=scB s p∧dgB (lk s f)=true∧Pt w0 b (scNeg s p) ⟨#[]⟩ ⟨#[]⟩ false ⟨#[]⟩ w
def K4 (e f:Nat) (w:World):Prop:=f=scB s p+1∧f≤e∧e<rn s f∧lk s (scB s p)=46∧dgB (lk s (scA s p))=true∧Pt w0 b (scNeg s p) (s.extract (scA s p) (scB s p)) ⟨#[]⟩ false ⟨#[]⟩ w
def K3 (e:Nat) (w:World):Prop:=e=scC s p∧dgB (lk s (scA s p))=true∧¬ (lk s (scB s p)=46∧dgB (lk s (scB s p+1))=false)∧Pt w0 b (scNeg s p) (s.extract (scA s p) (scB s p)) (scBe s p) false ⟨#[]⟩ w
def K5 (e f:Nat) (w:World):Prop:=f=scF s p∧f≤e∧e<rn s f∧scX s p=true∧dgB (lk s (scA s p))=true∧¬ (lk s (scB s p)=46∧dgB (lk s (scB s p+1))=false)∧Pt w0 b (scNeg s p) (s.extract (scA s p) (scB s p)) (scBe s p) (scDn s p) ⟨#[]⟩ w
def K1 (e:Nat) (w:World):Prop:=scanS s p=(none,e)∧∃ n t1 t2 d t3,Pt w0 b n t1 t2 d t3 w
def KJ (l e f:Nat) (w:World):Prop:=(l=2∧K2 s p b w0 e f w)∨(l=0∧K0 s p b w0 e f w)∨(l=4∧K4 s p b w0 e f w)∨(l=3∧K3 s p b w0 e w)∨(l=5∧K5 s p b w0 e f w)∨(l=1∧K1 s p b w0 e w)
def frS (E F:Int) (G:Nat→Value):Array Value:=#[.string s,G 1,G 2,G 3,.pointer (some ⟨b,0,none⟩),.int .i64 E,G 6,.int .i64 F,G 8,G 9,G 10,G 11,G 12,G 13,G 14,G 15,G 16,G 17,G 18,G 19,G 20,G 21,G 22,G 23,G 24,G 25,G 26,G 27,G 28,G 29,G 30,G 31,G 32,G 33,G 34,G 35,G 36,G 37,G 38,G 39,G 40,G 41,G 42,G 43,G 44,G 45,G 46,G 47,G 48,G 49,G 50,G 51,G 52,G 53,G 54,G 55,G 56,G 57,G 58,G 59,G 60,G 61,G 62,G 63,G 64,G 65,G 66,G 67,G 68,G 69,G 70,G 71,G 72,G 73,G 74,G 75,G 76,G 77,G 78,G 79,G 80,G 81,G 82,G 83,G 84,G 85,G 86,G 87,G 88,G 89,G 90,G 91,G 92,G 93,G 94,G 95,G 96,G 97,G 98,G 99,G 100,G 101,G 102,G 103,G 104,G 105,G 106,G 107,G 108,G 109,G 110,G 111]
def ScJ (l:Nat) (a:Act) (w:World):Prop:=∃ (e f:Nat) (E F:Int) (G:Nat→Value),a=⟨frS s b E F G,[]⟩∧E=(e:Int)∧F=(f:Int)∧KJ s p b w0 l e f w
theorem ScJ.of {l:Nat} {w:World} (A:Array Value) (e f:Nat) (E F:Int) (h:A=frS s b E F (fun i=>A.getD i undef)) (he:E=(e:Int)) (hf:F=(f:Int)) (hK:KJ s p b w0 l e f w):ScJ s p b w0 l ⟨A,[]⟩ w :=
  ⟨e,f,E,F,_,by rw [← h],he,hf,hK⟩
theorem ScJ.label {l:Nat} {a:Act} {w:World} (h:ScJ s p b w0 l a w):l=2∨l=0∨l=4∨l=3∨l=5∨l=1:=by
  obtain ⟨e,f,E,F,G,-,-,-,hK⟩:=h
  rcases hK with ⟨h,-⟩ | ⟨h,-⟩ | ⟨h,-⟩ | ⟨h,-⟩ | ⟨h,-⟩ | ⟨h,-⟩
  · exact .inl h
  · exact .inr (.inl h)
  · exact .inr (.inr (.inl h))
  · exact .inr (.inr (.inr (.inl h)))
  · exact .inr (.inr (.inr (.inr (.inl h))))
  · exact .inr (.inr (.inr (.inr (.inr h))))
end
def rank (l:Nat):Nat:=if l=2 then 6 else if l=0 then 5 else if l=4 then 4 else if l=3 then 3 else if l=5 then 2 else 1
def scMu (S:Nat) (l:Nat) (a:Act) (_:World):Nat:=rank l*(S+2)+(S+1-(intOf (a.tmps.getD 5 undef)).toNat)
theorem mu_lt (S:Nat) {l l':Nat} (a a':Act) (w w':World) (h:rank l'<rank l):scMu S l' a' w'<scMu S l a w:=by
  unfold scMu
  have h1:rank l'*(S+2)+(S+2)≤rank l*(S+2):=by
    have:(rank l'+1)*(S+2)≤rank l*(S+2):=Nat.mul_le_mul_right _ h
    rw [Nat.add_mul,Nat.one_mul] at this
    exact this
  omega
theorem mu_same (S:Nat) (l:Nat) {a a':Act} {w w':World} {e e':Nat} (h:a.tmps.getD 5 undef = .int .i64 (e:Int)) (h':a'.tmps.getD 5 undef = .int .i64 (e':Int)) (hlt:e<e') (hS:e≤S):scMu S l a' w'<scMu S l a w:=by
  unfold scMu
  rw [h,h']
  simp only [intOf]
  omega
theorem scA_le (s:ByteArray) (p:Nat) (h:p≤s.size):scA s p≤s.size:=by
  unfold scA
  split
  · rename_i h1
    have:=lk_in (s:=s) (i:=p) (by omega)
    omega
  · exact h
theorem scB_le (s:ByteArray) (p:Nat) (h:p≤s.size):scB s p≤s.size:=by
  unfold scB
  split
  · rename_i h1
    have:=lk_in (s:=s) (i:=scA s p) (by omega)
    omega
  · exact rn_le s _ (scA_le s p h)
theorem scA_B (s:ByteArray) (p:Nat):scA s p≤scB s p:=by
  unfold scB
  split
  · omega
  · exact rn_ge s _
theorem scC_le (s:ByteArray) (p:Nat) (h:p≤s.size):scC s p≤s.size:=by
  unfold scC
  split
  · rename_i h1
    have:=lk_in (s:=s) (i:=scB s p) (by omega)
    exact rn_le s _ (by omega)
  · exact scB_le s p h
theorem scF_le (s:ByteArray) (p:Nat) (h:scX s p=true):scF s p≤s.size:=by
  have h0:lk s (scC s p)=101∨lk s (scC s p)=69:=by simpa [scX] using h
  have h1:=lk_in (s:=s) (i:=scC s p) (by omega)
  unfold scF
  split
  · rename_i h2
    have:=lk_in (s:=s) (i:=scC s p+1) (by omega)
    omega
  · omega
set_option linter.unusedSimpArgs false in
set_option maxRecDepth 20000 in
set_option maxHeartbeats 8000000 in
theorem scan_calls (s : ByteArray) (p : Nat) (hs : s.size ≤ 4611686018427387904) (hp : p ≤ s.size) (w : World) :
    Calls Tryz.prog 157 #[.string s,.int .i64 (p:Int)] w fun e w'=>e = .returned (scV s p)∧Below w.heap.size w w':=by
  have hpS:=hid hp
  go_enter Tryz.func157,Tryz.ntmps157
  go_wp2
  have P0:=hid (show Pt w w.heap.size false ⟨#[]⟩ ⟨#[]⟩ false ⟨#[]⟩ (w.alloc (.cells #[.bool false,.string ⟨#[]⟩,.string ⟨#[]⟩,.bool false,.string ⟨#[]⟩] 194)) from ⟨Nat.le_refl _,At.new w _ _,by exact bw⟩)
  obtain ⟨b,hb⟩:∃ b,w.heap.size=b:=⟨_,rfl⟩
  rw [hb] at P0 ⊢
  generalize w.alloc (.cells #[.bool false,.string ⟨#[]⟩,.string ⟨#[]⟩,.bool false,.string ⟨#[]⟩] 194)=w1 at P0 ⊢
  refine scope_codes (ScJ s p b w) (scMu s.size) ?_ ?_ ?_
  · intro l a' w' hJ
    rcases hJ.label with rfl | rfl | rfl | rfl | rfl | rfl <;> kernel_rfl
  · rintro l a' w' ⟨e,f,E,F,G,rfl,rfl,rfl,hK⟩ ih
    have ih':=hid ih
    clear ih P0 hp
    rcases hK with ⟨rfl,hK⟩ | ⟨rfl,hK⟩ | ⟨rfl,hK⟩ | ⟨rfl,hK⟩ | ⟨rfl,hK⟩ | ⟨rfl,hK⟩
    · simp only [codeOf,findLabel,Nat.reduceBEq,Bool.false_eq_true,if_false,if_true,frS]
      obtain ⟨hf,hle,hlt,h48,hP⟩:=hK
      have hes:e<s.size:=Nat.lt_of_lt_of_le hlt (rn_le s f (by rw [hf];exact scA_le s p hpS.out))
      obtain ⟨x,hx⟩:∃ x,Hid (lk s (e+1)=x):=⟨_,rfl⟩
      obtain ⟨B,hB⟩:∃ B,Hid (dgB x=B):=⟨_,rfl⟩
      have k_hf:=hid hf
      have k_hle:=hid hle
      have k_hlt:=hid hlt
      have k_h48:=hid h48
      have k_hP:=hid hP
      clear hP h48 hlt hle hf
      go_wp2_with fail
      refine Calls.mono (look_calls s (e+1) _ (by omega) x hx _) ?_
      rintro e' w2 ⟨rfl,rfl⟩
      go_wp2_with fail
      refine Calls.mono (digitD_calls x B hB _) ?_
      rintro e' w3 ⟨rfl,rfl⟩
      cases B with
      | true =>
        go_wp2
        go_step3
        have h6:e+1<rn s f:=by
          rcases Nat.lt_or_ge (e+1) (rn s f) with h | h
          · exact h
          · have h7:=k_hlt.out
            have h8:e+1=rn s f:=by omega
            have h9:=rn_end s f
            rw [← h8,hx.out,hB.out] at h9
            cases h9
        refine ⟨ScJ.of s p b w _ (e+1) f _ _ rfl (by omega) rfl (.inl ⟨rfl,k_hf.out,by have h1:=k_hle.out;omega,h6,k_h48.out,k_hP.out⟩),?_⟩
        exact mu_same _ _ rfl (e':=e+1) rfl (by omega) (by omega)
      | false =>
        have h8:=hid (show rn s f=e+1 by
          rcases Nat.lt_or_ge (e+1) (rn s f) with h | h
          · have h9:=rn_dig s f (e+1) (by have:=k_hle.out;omega) h
            rw [hx.out,hB.out] at h9
            cases h9
          · have h7:=k_hlt.out
            omega)
        have hdf:=hid (show dgB (lk s f)=true from rn_dig s f f (Nat.le_refl _) (by have h1:=k_hle.out;have h2:=k_hlt.out;omega))
        go_wp2
        go_step3
        rename_i KK hKK
        refine hKK _ _ (ih'.out 0 _ _ ?_ (mu_lt _ _ _ _ _ (by decide)))
        refine ScJ.of s p b w _ (e+1) f _ _ rfl (by omega) rfl (.inr (.inl ⟨rfl,k_hf.out,?_,hdf.out,k_hP.out⟩))
        rw [scB,← k_hf.out,if_neg k_h48.out,h8.out]
    · simp only [codeOf,findLabel,Nat.reduceBEq,Bool.false_eq_true,if_false,if_true,frS]
      obtain ⟨hf,he,hd,hP⟩:=hK
      have hfe:f≤e:=by rw [hf,he];exact scA_B s p
      have hes:e≤s.size:=by rw [he];exact scB_le s p hpS.out
      obtain ⟨⟨c0,c1,c2,c3,c4⟩,f0,f1,f2,f3,f4⟩:=hP.facts
      obtain ⟨x,hx⟩:∃ x,Hid (lk s e=x):=⟨_,rfl⟩
      have hPs:=hid (hP.set1 (s.extract f e))
      have k1:=hid hf
      have k2:=hid he
      have k3:=hid hd
      have hex:=hid (show s.extract f e=s.extract (scA s p) (scB s p) by rw [hf,he])
      clear hf he hd hP
      go_wp2_with fail
      refine Calls.mono (look_calls s (e) _ (by omega) x hx _) ?_
      rintro e' w2 ⟨rfl,rfl⟩
      clear c0 c1 c2 c3 c4 f0 f1 f2 f3 f4
      by_cases h46:x=46
      · have e1:((x:Int) != 46)=false:=by simp [h46]
        obtain ⟨y,hy⟩:∃ y,Hid (lk s (e+1)=y):=⟨_,rfl⟩
        obtain ⟨B,hB⟩:∃ B,Hid (dgB y=B):=⟨_,rfl⟩
        have hpt:=hid (show lk s (scB s p)=46 by rw [← k2.out,hx.out,h46])
        have hpl:=lk_in (s:=s) (i:=e) (by rw [hx.out];omega)
        have h46':=hid h46
        clear h46
        go_wp2_with fail
        refine Calls.mono (look_calls s (e+1) _ (by omega) y hy _) ?_
        rintro e' w3 ⟨rfl,rfl⟩
        go_wp2_with fail
        refine Calls.mono (digitD_calls y B hB _) ?_
        rintro e' w4 ⟨rfl,rfl⟩
        cases B with
        | false =>
          go_wp2
          go_step3
          refine ⟨ScJ.of s p b w _ (e+1) (e+1) _ _ rfl (by omega) (by omega) (.inr (.inr (.inr (.inr (.inr ⟨rfl,?_,_,_,_,_,_,hPs.out⟩))))),mu_lt _ _ _ _ _ (by decide)⟩
          have h1:dgB (lk s (scB s p+1))=false:=by rw [← k2.out,hy.out,hB.out]
          rw [scanS,if_neg (by rw [← k1.out,k3.out];decide),if_pos ⟨hpt.out,h1⟩,k2.out]
        | true =>
          go_wp2
          go_step3
          rename_i KK hKK
          refine hKK _ _ (ih'.out 4 _ _ ?_ (mu_lt _ _ _ _ _ (by decide)))
          refine ScJ.of s p b w _ (e+1) (e+1) _ _ rfl (by omega) (by omega) (.inr (.inr (.inl ⟨rfl,by rw [k2.out],Nat.le_refl _,rn_lt s _ (by rw [hy.out,hB.out]),hpt.out,by rw [← k1.out,k3.out],?_⟩)))
          rw [← hex.out]
          exact hPs.out
      · have e1:((x:Int) != 46)=true:=by simp;omega
        go_wp2
        go_step3
        have h1:lk s (scB s p)≠46:=by rw [← k2.out,hx.out];exact h46
        refine ⟨ScJ.of s p b w _ e f _ _ rfl rfl rfl (.inr (.inr (.inr (.inl ⟨rfl,?_,by rw [← k1.out,k3.out],fun h=>h1 h.1,?_⟩)))),mu_lt _ _ _ _ _ (by decide)⟩
        · rw [scC,if_neg h1,k2.out]
        · have h2:scBe s p=⟨#[]⟩:=by rw [scBe,if_neg h1]
          rw [← hex.out,h2]
          exact hPs.out
    · simp only [codeOf,findLabel,Nat.reduceBEq,Bool.false_eq_true,if_false,if_true,frS]
      obtain ⟨hf,hle,hlt,h46,hd,hP⟩:=hK
      have hes:e<s.size:=Nat.lt_of_lt_of_le hlt (rn_le s f (by rw [hf];have:=lk_in (s:=s) (i:=scB s p) (by omega);omega))
      obtain ⟨x,hx⟩:∃ x,Hid (lk s (e+1)=x):=⟨_,rfl⟩
      obtain ⟨B,hB⟩:∃ B,Hid (dgB x=B):=⟨_,rfl⟩
      have k_hf:=hid hf
      have k_hle:=hid hle
      have k_hlt:=hid hlt
      have k_h46:=hid h46
      have k_hd:=hid hd
      have k_hP:=hid hP
      clear hP hd h46 hlt hle hf
      go_wp2_with fail
      refine Calls.mono (look_calls s (e+1) _ (by omega) x hx _) ?_
      rintro e' w2 ⟨rfl,rfl⟩
      go_wp2_with fail
      refine Calls.mono (digitD_calls x B hB _) ?_
      rintro e' w3 ⟨rfl,rfl⟩
      cases B with
      | true =>
        go_wp2
        go_step3
        have h6:e+1<rn s f:=by
          rcases Nat.lt_or_ge (e+1) (rn s f) with h | h
          · exact h
          · have h7:=k_hlt.out
            have h8:e+1=rn s f:=by omega
            have h9:=rn_end s f
            rw [← h8,hx.out,hB.out] at h9
            cases h9
        refine ⟨ScJ.of s p b w _ (e+1) f _ _ rfl (by omega) rfl (.inr (.inr (.inl ⟨rfl,k_hf.out,by have h1:=k_hle.out;omega,h6,k_h46.out,k_hd.out,k_hP.out⟩))),?_⟩
        exact mu_same _ _ rfl (e':=e+1) rfl (by omega) (by omega)
      | false =>
        have h8:=hid (show rn s f=e+1 by
          rcases Nat.lt_or_ge (e+1) (rn s f) with h | h
          · have h9:=rn_dig s f (e+1) (by have:=k_hle.out;omega) h
            rw [hx.out,hB.out] at h9
            cases h9
          · have h7:=k_hlt.out
            omega)
        have hdf:=hid (show dgB (lk s f)=true from rn_dig s f f (Nat.le_refl _) (by have h1:=k_hle.out;have h2:=k_hlt.out;omega))
        obtain ⟨⟨c0,c1,c2,c3,c4⟩,f0,f1,f2,f3,f4⟩:=k_hP.out.facts
        have hfe:f≤e+1:=by have h1:=k_hle.out;omega
        have hPs:=hid (k_hP.out.set2 (s.extract f (e+1)))
        have hscC:=hid (show scC s p=e+1 by rw [scC,if_pos k_h46.out,← k_hf.out,h8.out])
        go_wp2
        go_step3
        rename_i KK hKK
        refine hKK _ _ (ih'.out 3 _ _ ?_ (mu_lt _ _ _ _ _ (by decide)))
        refine ScJ.of s p b w _ (e+1) f _ _ rfl (by omega) rfl (.inr (.inr (.inr (.inl ⟨rfl,hscC.out.symm,k_hd.out,?_,?_⟩))))
        · rw [← k_hf.out]
          intro h
          rw [hdf.out] at h
          exact Bool.noConfusion h.2
        · have h2:scBe s p=s.extract f (e+1):=by rw [scBe,if_pos k_h46.out,hscC.out,← k_hf.out]
          rw [h2]
          exact hPs.out
    · simp only [codeOf,findLabel,Nat.reduceBEq,Bool.false_eq_true,if_false,if_true,frS]
      obtain ⟨he,hd,hn,hP0⟩:=hK
      have hes:e≤s.size:=by rw [he];exact scC_le s p hpS.out
      obtain ⟨⟨c0,c1,c2,c3,c4⟩,f0,f1,f2,f3,f4⟩:=hP0.facts
      obtain ⟨x,hx⟩:∃ x,Hid (lk s e=x):=⟨_,rfl⟩
      have hP:=hid hP0
      have k1:=hid he
      have k2:=hid hd
      have k3:=hid hn
      obtain ⟨t1,ht1⟩:∃ t,s.extract (scA s p) (scB s p)=t:=⟨_,rfl⟩
      obtain ⟨t2,ht2⟩:∃ t,scBe s p=t:=⟨_,rfl⟩
      obtain ⟨ng,hng⟩:∃ t,scNeg s p=t:=⟨_,rfl⟩
      have hhe:=hid (And.intro ht1 (And.intro ht2 hng))
      rw [ht1,ht2,hng] at hP
      rw [ht1] at c1
      rw [ht2] at c2
      rw [hng] at c0
      clear he hd hn hP0 ht1 ht2 hng
      go_wp2_with fail
      refine Calls.mono (look_calls s (e) _ (by omega) x hx _) ?_
      rintro e' w2 ⟨rfl,rfl⟩
      by_cases hxe:x=101∨x=69
      · have hX:=hid (show scX s p=true by rw [scX,← k1.out,hx.out];simpa using hxe)
        have hpl:=lk_in (s:=s) (i:=e) (by rw [hx.out];omega)
        obtain ⟨y,hy⟩:∃ y,Hid (lk s (e+1)=y):=⟨_,rfl⟩
        have hgo:(((x:Int) != 101)=false)∨(((x:Int) != 101)=true∧((x:Int) != 69)=false):=by
          rcases hxe with h | h
          · left;simp [h]
          · right;subst h;exact ⟨rfl,rfl⟩
        clear hxe
        rcases hgo with e1 | ⟨e1,e2⟩
        all_goals
          go_wp2_with fail
          refine Calls.mono (look_calls s (e+1) _ (by omega) y hy _) ?_
          rintro e' w3 ⟨rfl,rfl⟩
          by_cases hy43:y=43
          · subst hy43
            obtain ⟨z,hz⟩:∃ z,Hid (lk s (e+2)=z):=⟨_,rfl⟩
            obtain ⟨B,hB⟩:∃ B,Hid (dgB z=B):=⟨_,rfl⟩
            have hF:=hid (show scF s p=e+2 by rw [scF,← k1.out,hy.out];simp)
            have hD:=hid (show scDn s p=false by rw [scDn,hX.out,← k1.out,hy.out];simp)
            have hPs:=hid (hP.out.set3 false)
            have hpl:=lk_in (s:=s) (i:=e+1) (by rw [hy.out];omega)
            go_wp2_with fail
            refine Calls.mono (look_calls s (e+2) _ (by omega) z hz _) ?_
            rintro e' w4 ⟨rfl,rfl⟩
            go_wp2_with fail
            refine Calls.mono (digitD_calls z B hB _) ?_
            rintro e' w5 ⟨rfl,rfl⟩
            cases B with
            | false =>
              go_wp2
              go_step3
              refine ⟨ScJ.of s p b w _ (e+2) (e+2) _ _ rfl (by omega) (by omega) (.inr (.inr (.inr (.inr (.inr ⟨rfl,?_,_,_,_,_,_,hPs.out⟩))))),mu_lt _ _ _ _ _ (by decide)⟩
              have h1:dgB (lk s (scF s p))=false:=by rw [hF.out,hz.out,hB.out]
              rw [scanS,if_neg (by rw [k2.out];decide),if_neg k3.out,if_pos ⟨hX.out,h1⟩,hF.out]
            | true =>
              go_wp2
              go_step3
              rename_i KK hKK
              refine hKK _ _ (ih'.out 5 _ _ ?_ (mu_lt _ _ _ _ _ (by decide)))
              refine ScJ.of s p b w _ (e+2) (e+2) _ _ rfl (by omega) (by omega) (.inr (.inr (.inr (.inr (.inl ⟨rfl,hF.out.symm,Nat.le_refl _,rn_lt s _ (by rw [hz.out,hB.out]),hX.out,k2.out,k3.out,?_⟩)))))
              rw [hD.out,hhe.out.1,hhe.out.2.1,hhe.out.2.2]
              exact hPs.out
          by_cases hy45:y=45
          · subst hy45
            obtain ⟨z,hz⟩:∃ z,Hid (lk s (e+2)=z):=⟨_,rfl⟩
            obtain ⟨B,hB⟩:∃ B,Hid (dgB z=B):=⟨_,rfl⟩
            have hF:=hid (show scF s p=e+2 by rw [scF,← k1.out,hy.out];simp)
            have hD:=hid (show scDn s p=true by rw [scDn,hX.out,← k1.out,hy.out];simp)
            have hPs:=hid (hP.out.set3 true)
            have hpl:=lk_in (s:=s) (i:=e+1) (by rw [hy.out];omega)
            go_wp2_with fail
            refine Calls.mono (look_calls s (e+2) _ (by omega) z hz _) ?_
            rintro e' w4 ⟨rfl,rfl⟩
            go_wp2_with fail
            refine Calls.mono (digitD_calls z B hB _) ?_
            rintro e' w5 ⟨rfl,rfl⟩
            cases B with
            | false =>
              go_wp2
              go_step3
              refine ⟨ScJ.of s p b w _ (e+2) (e+2) _ _ rfl (by omega) (by omega) (.inr (.inr (.inr (.inr (.inr ⟨rfl,?_,_,_,_,_,_,hPs.out⟩))))),mu_lt _ _ _ _ _ (by decide)⟩
              have h1:dgB (lk s (scF s p))=false:=by rw [hF.out,hz.out,hB.out]
              rw [scanS,if_neg (by rw [k2.out];decide),if_neg k3.out,if_pos ⟨hX.out,h1⟩,hF.out]
            | true =>
              go_wp2
              go_step3
              rename_i KK hKK
              refine hKK _ _ (ih'.out 5 _ _ ?_ (mu_lt _ _ _ _ _ (by decide)))
              refine ScJ.of s p b w _ (e+2) (e+2) _ _ rfl (by omega) (by omega) (.inr (.inr (.inr (.inr (.inl ⟨rfl,hF.out.symm,Nat.le_refl _,rn_lt s _ (by rw [hz.out,hB.out]),hX.out,k2.out,k3.out,?_⟩)))))
              rw [hD.out,hhe.out.1,hhe.out.2.1,hhe.out.2.2]
              exact hPs.out
          have g1:((y:Int) == 43)=false:=by simp;omega
          have g2:((y:Int) == 45)=false:=by simp;omega
          obtain ⟨z,hz⟩:∃ z,Hid (lk s (e+1)=z):=⟨_,rfl⟩
          obtain ⟨B,hB⟩:∃ B,Hid (dgB z=B):=⟨_,rfl⟩
          have hF:=hid (show scF s p=e+1 by rw [scF,← k1.out,hy.out];simp [hy43,hy45])
          have hD:=hid (show scDn s p=false by rw [scDn,hX.out,← k1.out,hy.out];simp [hy45])
          have hPs:=hid (hP.out)
          have hy43':=hid hy43
          have hy45':=hid hy45
          clear hy43 hy45
          go_wp2_with fail
          refine Calls.mono (look_calls s (e+1) _ (by omega) z hz _) ?_
          rintro e' w4 ⟨rfl,rfl⟩
          go_wp2_with fail
          refine Calls.mono (digitD_calls z B hB _) ?_
          rintro e' w5 ⟨rfl,rfl⟩
          cases B with
          | false =>
            go_wp2
            go_step3
            refine ⟨ScJ.of s p b w _ (e+1) (e+1) _ _ rfl (by omega) (by omega) (.inr (.inr (.inr (.inr (.inr ⟨rfl,?_,_,_,_,_,_,hPs.out⟩))))),mu_lt _ _ _ _ _ (by decide)⟩
            have h1:dgB (lk s (scF s p))=false:=by rw [hF.out,hz.out,hB.out]
            rw [scanS,if_neg (by rw [k2.out];decide),if_neg k3.out,if_pos ⟨hX.out,h1⟩,hF.out]
          | true =>
            go_wp2
            go_step3
            rename_i KK hKK
            refine hKK _ _ (ih'.out 5 _ _ ?_ (mu_lt _ _ _ _ _ (by decide)))
            refine ScJ.of s p b w _ (e+1) (e+1) _ _ rfl (by omega) (by omega) (.inr (.inr (.inr (.inr (.inl ⟨rfl,hF.out.symm,Nat.le_refl _,rn_lt s _ (by rw [hz.out,hB.out]),hX.out,k2.out,k3.out,?_⟩)))))
            rw [hD.out,hhe.out.1,hhe.out.2.1,hhe.out.2.2]
            exact hPs.out
      · have e1:((x:Int) != 101)=true:=by simp;omega
        have e2:((x:Int) != 69)=true:=by simp;omega
        have hX:=hid (show scX s p=false by rw [scX,← k1.out,hx.out];simpa using hxe)
        clear hxe
        go_wp2
        simp only [jumps]
        refine ret_ps rfl rfl (hP.out.all _ _ _ _ _).2.1 rfl ⟨?_,(hP.out.all _ _ _ _ _).2.2⟩
        have h1:scH s p=e:=by rw [scH,if_neg (by rw [hX.out];decide),k1.out]
        have h2:scDn s p=false:=by rw [scDn,hX.out];rfl
        have h3:scPw s p=⟨#[]⟩:=by rw [scPw,if_neg (by rw [hX.out];decide)]
        have h4:scanS s p=(some ⟨scNeg s p,s.extract (scA s p) (scB s p),scBe s p,scDn s p,scPw s p⟩,scH s p):=by
          rw [scanS,if_neg (by rw [k2.out];decide),if_neg k3.out,if_neg (by rw [hX.out];exact fun h=>Bool.noConfusion h.1)]
        rw [scV_some h4,h1,h2,h3,hhe.out.1,hhe.out.2.1,hhe.out.2.2]
        rfl
    · simp only [codeOf,findLabel,Nat.reduceBEq,Bool.false_eq_true,if_false,if_true,frS]
      obtain ⟨hf,hle,hlt,hX,hd,hn,hP⟩:=hK
      have hes:e<s.size:=Nat.lt_of_lt_of_le hlt (rn_le s f (by rw [hf];exact scF_le s p hX))
      obtain ⟨x,hx⟩:∃ x,Hid (lk s (e+1)=x):=⟨_,rfl⟩
      obtain ⟨B,hB⟩:∃ B,Hid (dgB x=B):=⟨_,rfl⟩
      have k_hf:=hid hf
      have k_hle:=hid hle
      have k_hlt:=hid hlt
      have k_hX:=hid hX
      have k_hd:=hid hd
      have k_hn:=hid hn
      have k_hP:=hid hP
      clear hP hn hd hX hlt hle hf
      go_wp2_with fail
      refine Calls.mono (look_calls s (e+1) _ (by omega) x hx _) ?_
      rintro e' w2 ⟨rfl,rfl⟩
      go_wp2_with fail
      refine Calls.mono (digitD_calls x B hB _) ?_
      rintro e' w3 ⟨rfl,rfl⟩
      cases B with
      | true =>
        go_wp2
        go_step3
        have h6:e+1<rn s f:=by
          rcases Nat.lt_or_ge (e+1) (rn s f) with h | h
          · exact h
          · have h7:=k_hlt.out
            have h8:e+1=rn s f:=by omega
            have h9:=rn_end s f
            rw [← h8,hx.out,hB.out] at h9
            cases h9
        refine ⟨ScJ.of s p b w _ (e+1) f _ _ rfl (by omega) rfl (.inr (.inr (.inr (.inr (.inl ⟨rfl,k_hf.out,by have h1:=k_hle.out;omega,h6,k_hX.out,k_hd.out,k_hn.out,k_hP.out⟩))))),?_⟩
        exact mu_same _ _ rfl (e':=e+1) rfl (by omega) (by omega)
      | false =>
        have h8:=hid (show rn s f=e+1 by
          rcases Nat.lt_or_ge (e+1) (rn s f) with h | h
          · have h9:=rn_dig s f (e+1) (by have:=k_hle.out;omega) h
            rw [hx.out,hB.out] at h9
            cases h9
          · have h7:=k_hlt.out
            omega)
        have hdf:=hid (show dgB (lk s f)=true from rn_dig s f f (Nat.le_refl _) (by have h1:=k_hle.out;have h2:=k_hlt.out;omega))
        obtain ⟨t1,ht1⟩:∃ t,s.extract (scA s p) (scB s p)=t:=⟨_,rfl⟩
        obtain ⟨t2,ht2⟩:∃ t,scBe s p=t:=⟨_,rfl⟩
        obtain ⟨ng,hng⟩:∃ t,scNeg s p=t:=⟨_,rfl⟩
        obtain ⟨dn,hdn⟩:∃ t,scDn s p=t:=⟨_,rfl⟩
        have hhe:=hid (And.intro ht1 (And.intro ht2 (And.intro hng hdn)))
        rw [ht1,ht2,hng,hdn] at k_hP
        obtain ⟨⟨c0,c1,c2,c3,c4⟩,f0,f1,f2,f3,f4⟩:=k_hP.out.facts
        have hfe:f≤e+1:=by have h1:=k_hle.out;omega
        clear ht1 ht2 hng hdn
        have hPs:=hid (k_hP.out.set4 (s.extract f (e+1)))
        go_upto_region 32 with fail
        generalize wq:(w3.setCell ⟨b,4,none⟩ (.string (s.extract f (e+1))))=w5 at hPs ⊢
        clear c0 c1 c2 c3 c4 f0 f1 f2 f3 f4
        obtain ⟨t3,ht3⟩:∃ t,s.extract f (e+1)=t:=⟨_,rfl⟩
        rw [ht3] at hPs
        obtain ⟨⟨c0,c1,c2,c3,c4⟩,f0,f1,f2,f3,f4⟩:=hPs.out.facts
        go_wp2
        simp only [jumps]
        refine ret_ps rfl rfl (hPs.out.all _ _ _ _ _).2.1 rfl ⟨?_,(hPs.out.all _ _ _ _ _).2.2⟩
        have h1:scH s p=e+1:=by rw [scH,if_pos k_hX.out,← k_hf.out,h8.out]
        have h3:scPw s p=t3:=by rw [scPw,if_pos k_hX.out,← k_hf.out,h1,ht3]
        have h4:scanS s p=(some ⟨scNeg s p,s.extract (scA s p) (scB s p),scBe s p,scDn s p,scPw s p⟩,scH s p):=by
          rw [scanS,if_neg (by rw [k_hd.out];decide),if_neg k_hn.out,if_neg (by rw [← k_hf.out,hdf.out];exact fun h=>Bool.noConfusion h.2)]
        rw [scV_some h4,h1,h3,hhe.out.1,hhe.out.2.1,hhe.out.2.2.1,hhe.out.2.2.2]
        rfl
    · simp only [codeOf,findLabel,Nat.reduceBEq,Bool.false_eq_true,if_false,if_true,frS]
      obtain ⟨he,n,t1,t2,d,t3,hP0⟩:=hK
      have hP:=hid hP0
      obtain ⟨⟨c0,c1,c2,c3,c4⟩,f0,f1,f2,f3,f4⟩:=hP0.facts
      have k1:=hid he
      clear he hP0
      go_wp2
      simp only [jumps]
      refine ret_ps rfl rfl (hP.out.all _ _ _ _ _).2.1 rfl ⟨?_,(hP.out.all _ _ _ _ _).2.2⟩
      rw [scV_none k1.out]
      rfl
  · intro ih
    have ih':=hid ih
    clear ih
    obtain ⟨⟨c0,c1,c2,c3,c4⟩,f0,f1,f2,f3,f4⟩:=P0.out.facts
    obtain ⟨x,hx⟩:∃ x,Hid (lk s p=x):=⟨_,rfl⟩
    clear hb
    have hp2:=hp
    clear hp
    go_wp2_with fail
    refine Calls.mono (look_calls s (p) _ (by omega) x hx _) ?_
    rintro e' w2 ⟨rfl,rfl⟩
    by_cases hx45:x=45
    · have hpl:=lk_in (s:=s) (i:=p) (by rw [hx.out];omega)
      have e1:((x:Int) == 45)=true:=by simp [hx45]
      have hx45:=hid hx45
      have hA:=hid (show scA s p=p+1 by
        rw [scA,if_pos (hx.out.trans hx45.out)])
      have hN:=hid (show scNeg s p=true by rw [scNeg,hx.out];simp [hx45.out])
      have hPs:=hid (P0.out.set0 true)
      obtain ⟨y,hy⟩:∃ y,Hid (lk s (p+1)=y):=⟨_,rfl⟩
      go_wp2_with fail
      refine Calls.mono (look_calls s (p+1) _ (by omega) y hy _) ?_
      rintro e' w3 ⟨rfl,rfl⟩
      by_cases hy48:y=48
      · subst hy48
        have hpl2:=lk_in (s:=s) (i:=p+1) (by rw [hy.out];omega)
        go_wp2
        go_step3
        refine ScJ.of s p b w _ (p+1+1) (p+1) _ _ rfl (by omega) (by omega) (.inr (.inl ⟨rfl,hA.out.symm,?_,by rw [hy.out];rfl,?_⟩))
        · rw [scB,hA.out,hy.out,if_pos rfl]
        · rw [hN.out]
          exact hPs.out
      · have g1:((y:Int) == 48)=false:=by simp;omega
        obtain ⟨B,hB⟩:∃ B,Hid (dgB y=B):=⟨_,rfl⟩
        have hy48':=hid hy48
        clear hy48
        go_wp2_with fail
        refine Calls.mono (look_calls s (p+1) _ (by omega) y hy _) ?_
        rintro e' w4 ⟨rfl,rfl⟩
        go_wp2_with fail
        refine Calls.mono (digitD_calls y B hB _) ?_
        rintro e' w5 ⟨rfl,rfl⟩
        cases B with
        | false =>
          go_wp2
          go_step3
          refine ScJ.of s p b w _ (p+1) (p+1) _ _ rfl (by omega) (by omega) (.inr (.inr (.inr (.inr (.inr ⟨rfl,?_,_,_,_,_,_,hPs.out⟩)))))
          have h1:dgB (lk s (scA s p))=false:=by rw [hA.out,hy.out,hB.out]
          rw [scanS,if_pos h1,hA.out]
        | true =>
          go_wp2
          go_step3
          rename_i KK hKK
          refine hKK _ _ (ih'.out 2 _ _ ?_)
          refine ScJ.of s p b w _ (p+1) (p+1) _ _ rfl (by omega) (by omega) (.inl ⟨rfl,hA.out.symm,Nat.le_refl _,rn_lt s _ (by rw [hy.out,hB.out]),by rw [hy.out];exact hy48'.out,?_⟩)
          rw [hN.out]
          exact hPs.out
    · have e1:((x:Int) == 45)=false:=by simp;omega
      have hx45:=hid hx45
      have hA:=hid (show scA s p=p by
        rw [scA,if_neg (by rw [hx.out];exact hx45.out)])
      have hN:=hid (show scNeg s p=false by rw [scNeg,hx.out];simpa using hx45.out)
      have hPs:=hid (P0.out)
      obtain ⟨y,hy⟩:∃ y,Hid (lk s (p)=y):=⟨_,rfl⟩
      go_wp2_with fail
      refine Calls.mono (look_calls s (p) _ (by omega) y hy _) ?_
      rintro e' w3 ⟨rfl,rfl⟩
      by_cases hy48:y=48
      · subst hy48
        have hpl2:=lk_in (s:=s) (i:=p) (by rw [hy.out];omega)
        go_wp2
        go_step3
        refine ScJ.of s p b w _ (p+1) (p) _ _ rfl (by omega) (by omega) (.inr (.inl ⟨rfl,hA.out.symm,?_,by rw [hy.out];rfl,?_⟩))
        · rw [scB,hA.out,hy.out,if_pos rfl]
        · rw [hN.out]
          exact hPs.out
      · have g1:((y:Int) == 48)=false:=by simp;omega
        obtain ⟨B,hB⟩:∃ B,Hid (dgB y=B):=⟨_,rfl⟩
        have hy48':=hid hy48
        clear hy48
        go_wp2_with fail
        refine Calls.mono (look_calls s (p) _ (by omega) y hy _) ?_
        rintro e' w4 ⟨rfl,rfl⟩
        go_wp2_with fail
        refine Calls.mono (digitD_calls y B hB _) ?_
        rintro e' w5 ⟨rfl,rfl⟩
        cases B with
        | false =>
          go_wp2
          go_step3
          refine ScJ.of s p b w _ (p) (p) _ _ rfl (by omega) (by omega) (.inr (.inr (.inr (.inr (.inr ⟨rfl,?_,_,_,_,_,_,hPs.out⟩)))))
          have h1:dgB (lk s (scA s p))=false:=by rw [hA.out,hy.out,hB.out]
          rw [scanS,if_pos h1,hA.out]
        | true =>
          go_wp2
          go_step3
          rename_i KK hKK
          refine hKK _ _ (ih'.out 2 _ _ ?_)
          refine ScJ.of s p b w _ (p) (p) _ _ rfl (by omega) (by omega) (.inl ⟨rfl,hA.out.symm,Nat.le_refl _,rn_lt s _ (by rw [hy.out,hB.out]),by rw [hy.out];exact hy48'.out,?_⟩)
          rw [hN.out]
          exact hPs.out
end Go.Proofs.YtongedjlmohogaaGreatDoor
/- What decimal.power answers. -/
namespace Go.Proofs.YtongedjlmohogaaGreatDoor
open Go.RowKit Go.Shelf
theorem trimL_calls (s : ByteArray) (T : ByteArray) (hT : Hid ((⟨(Lib.trimLeftB s.data.toList 48).toArray⟩ : ByteArray) = T)) (w : World) :
    Calls Tryz.prog 173 #[.string s,.string ⟨#[48]⟩] w fun e w'=>e = .returned (.string T)∧w'=w:=by
  rw [← hT.out]
  exact Any.strings_TrimLeft_one Tryz.lays161 s 48 (by decide) w
theorem trimR_calls (s : ByteArray) (hs : s.size ≤ 4611686018427387904) (T : ByteArray) (hT : Hid ((⟨(Lib.trimRightB s.data.toList 48).toArray⟩ : ByteArray) = T)) (w : World) :
    Calls Tryz.prog 174 #[.string s,.string ⟨#[48]⟩] w fun e w'=>e = .returned (.string T)∧w'=w:=by
  rw [← hT.out]
  exact Any.strings_TrimRight_one Tryz.lays162 s 48 (by decide) w (by omega)
theorem clone_calls (s : ByteArray) (hs : s.size ≤ 281474976710656) (w : World) :
    Calls Tryz.prog 61 #[.string s] w fun e w'=>e = .returned (.string s)∧Below w.heap.size w w':=by
  have hc:=hid (show Calls Tryz.prog 86 #[.string s] w fun e w'=>e = .returned (.string s)∧Below w.heap.size w w' from Any.stringslite_Clone Tryz.laysM316 s w hs)
  go_enter Tryz.func61,Tryz.ntmps61
  go_wp2_with fail
  refine Calls.mono hc.out ?_
  rintro e w1 ⟨rfl,hb⟩
  clear hc
  go_wp2
  go_ret
  exact ⟨rfl,hb⟩
def satF (s:ByteArray):Nat→Nat
  | 0=>0
  | i+1=>if satF s i<72057594037927936 then 10*satF s i+(lk s i-48) else satF s i
theorem satF_le (s:ByteArray) (hd:∀ i,i<s.size→dgB (lk s i)=true):∀ i,i≤s.size→satF s i<720575940379279370
  | 0,_=>by show 0<_;decide
  | i+1,h=>by
    have ih:=satF_le s hd i (by omega)
    have:=(dgB_iff _).1 (hd i (by omega))
    unfold satF
    split <;> omega
theorem satF_stop (s:ByteArray) (i:Nat) (h:72057594037927936≤satF s i):∀ k,satF s (i+k)=satF s i
  | 0=>rfl
  | k+1=>by
    have ih:=satF_stop s i h k
    show (if satF s (i+k)<72057594037927936 then 10*satF s (i+k)+(lk s (i+k)-48) else satF s (i+k))=_
    rw [ih,if_neg (by omega)]
def powV (n:Num):Int:=if n.dn then -(satF n.pw n.pw.size:Int) else satF n.pw n.pw.size
set_option maxRecDepth 10000 in
set_option maxHeartbeats 2000000 in
theorem power_calls (n : Num) (hs : n.pw.size ≤ 4611686018427387904) (hd : Hid (∀ i, i < n.pw.size → dgB (lk n.pw i) = true)) (E : Int) (hE : Hid (powV n = E)) (w : World) :
    Calls Tryz.prog 175 #[numV n] w fun e w'=>e = .returned (.int .i64 E)∧Below w.heap.size w w':=by
  obtain ⟨ng,t1,t2,dn,t⟩:=n
  dsimp only [numV] at hs hd ⊢
  have hE':=hid (show (if dn then -(satF t t.size:Int) else satF t t.size)=E from hE.out)
  clear hE
  go_enter Tryz.func175,Tryz.ntmps175
  have hBU:Below w.heap.size w (w.alloc (.cells #[.bool ng,.string t1,.string t2,.bool dn,.string t] 194)):=by exact bw
  have A0:=At.new w #[.bool ng,.string t1,.string t2,.bool dn,.string t] 194
  have c3:(w.alloc (.cells #[.bool ng,.string t1,.string t2,.bool dn,.string t] 194)).cell? ⟨w.heap.size,3,none⟩=some (.bool dn):=A0.cell 3
  have c4:(w.alloc (.cells #[.bool ng,.string t1,.string t2,.bool dn,.string t] 194)).cell? ⟨w.heap.size,4,none⟩=some (.string t):=A0.cell 4
  clear A0
  go_wp2
  go_loop [3,4] (fun nn ii=>∃ i m:Nat,i≤t.size∧ii = .int .i64 (i:Int)∧nn = .int .i64 (m:Int)∧Hid (satF t i=m)) (fun _ ii=>t.size-(intOf ii).toNat)
  case atStart=>exact ⟨0,0,Nat.zero_le _,rfl,rfl,rfl⟩
  case round =>
    obtain ⟨i,m,hi,rfl,rfl,hm⟩:=hrel
    have hml:m<720575940379279370:=by rw [← hm.out];exact satF_le t hd.out i hi
    by_cases hil:i<t.size
    · have e1:decide ((i:Int)<(t.size:Int))=true:=by simp;omega
      have hiI:(i:Int)<(t.size:Int):=by omega
      by_cases hmm:m<72057594037927936
      · have e2:decide ((m:Int)<72057594037927936)=true:=by simp;omega
        obtain ⟨y,hy⟩:∃ y,t[i].toNat=y:=⟨_,rfl⟩
        have hyd:48≤y∧y≤57:=by rw [← hy,← lk_at t i hil];exact (dgB_iff _).1 (hd.out i hil)
        have hst:=hid (show satF t (i+1)=10*m+(y-48) by
          have h1:lk t i=y:=by rw [lk_at t i hil,hy]
          have h2:=hm.out
          show (if satF t i<72057594037927936 then 10*satF t i+(lk t i-48) else satF t i)=_
          rw [h2,if_pos hmm,h1])
        obtain ⟨z,hz⟩:∃ z,y=48+z:=⟨y-48,by omega⟩
        subst hz
        have ez:IntKind.u8.wrap (((48+z:Nat):Int)-48)=(z:Int):=by rw [IntKind.wrap_u8];omega
        have ez2:(((48+z:Nat):Int)-48)=(z:Int):=by omega
        have hz9:z≤9:=by omega
        clear hyd
        go_wp2
        go_round
        case rel=>exact ⟨i+1,10*m+z,by omega,by simp,by simp;omega,by show _=_;rw [hst.out];omega⟩
        case measure=>simp [intOf];omega
      · have e2:decide ((m:Int)<72057594037927936)=false:=by simp;omega
        have hfin:satF t t.size=m:=by
          have h1:=satF_stop t i (by rw [hm.out];omega) (t.size-i)
          rw [show i+(t.size-i)=t.size by omega,hm.out] at h1
          exact h1
        have hEE:=hE'.out
        rw [hfin] at hEE
        have hE2:=hid hEE
        clear hEE hE' hfin hmm hm
        cases dn
        · go_wp2
          go_ret
          exact ⟨by rw [← hE2.out];rfl,hBU⟩
        · go_wp2
          go_ret
          exact ⟨by rw [← hE2.out];rfl,hBU⟩
    · have e1:decide ((i:Int)<(t.size:Int))=false:=by simp;omega
      obtain rfl:i=t.size:=by omega
      have hEE:=hE'.out
      rw [hm.out] at hEE
      have hE2:=hid hEE
      clear hEE hE' hm
      cases dn
      · go_wp2
        go_ret
        exact ⟨by rw [← hE2.out];rfl,hBU⟩
      · go_wp2
        go_ret
        exact ⟨by rw [← hE2.out];rfl,hBU⟩
/-! worth -/
theorem sizeDec':(Tryz.prog.info? 170).map (·.size)=some 3:=by kernel_rfl
theorem load_dec {w:World} {b:Nat} {x0 x1 x2:Value} (h:At w b #[x0,x1,x2] 170):(loadVar 170 ⟨b,0,none⟩).run Tryz.prog w = .ok (.agg #[x0,x1,x2]) w :=
  run_loadVar_row (P:=Tryz.prog) w b 170 170 #[x0,x1,x2] (0,0) _ h Tryz.underlying170 rfl sizeDec'
theorem ret_dec {fn : Func} {p u : Tmp} {R : Ending → World → Prop} {a : Act} {w : World} {b : Nat} {x0 x1 x2 : Value} (hres : fn.results = #[.cell p 170, .tmp u]) (hp : a.tmps.getD p undef = .pointer (some ⟨b, 0, none⟩))
    (h:At w b #[x0,x1,x2] 170) (hd:a.defers=[]) (hR:R (.returned (.tuple #[.agg #[x0,x1,x2],a.tmps.getD u undef])) w):bodyPost Tryz.prog fn R .ret a w:=by
  refine bodyPost_ret (v:=.tuple #[.agg #[x0,x1,x2],a.tmps.getD u undef]) ?_ hd hR
  rw [results_cell_tmp hres,hp]
  simp [asAddr,load_dec h]
theorem ret_dec3 {fn : Func} {p u v : Tmp} {R : Ending → World → Prop} {a : Act} {w : World} {b : Nat} {x0 x1 x2 : Value} (hres : fn.results = #[.cell p 170, .tmp u, .tmp v]) (hp : a.tmps.getD p undef = .pointer (some ⟨b, 0, none⟩))
    (h:At w b #[x0,x1,x2] 170) (hd:a.defers=[]) (hR:R (.returned (.tuple #[.agg #[x0,x1,x2],a.tmps.getD u undef,a.tmps.getD v undef])) w):bodyPost Tryz.prog fn R .ret a w:=by
  refine bodyPost_ret (v:=.tuple #[.agg #[x0,x1,x2],a.tmps.getD u undef,a.tmps.getD v undef]) ?_ hd hR
  rw [results_ctt hres,hp]
  simp [asAddr,load_dec h]
theorem At.threeD {w:World} {b:Nat} {x0 x1 x2 y0 y1 y2:Value} {t:TypeId} (h:At w b #[x0,x1,x2] t):At (((w.setCell ⟨b,0,none⟩ y0).setCell ⟨b,1,none⟩ y1).setCell ⟨b,2,none⟩ y2) b #[y0,y1,y2] t:=by
  have:=((h.set 0 y0).set 1 y1).set 2 y2
  simpa using this
def OwnD (w0:World) (b:Nat) (n:Bool) (t:ByteArray) (x:Int) (w:World):Prop:=w0.heap.size≤b∧At w b #[.bool n,.string t,.int .i64 x] 170∧Below w0.heap.size w0 w
section
variable {w0:World} {b:Nat} {n:Bool} {t:ByteArray} {x:Int} {w w':World}
theorem OwnD.facts (h:OwnD w0 b n t x w):(w.cell? ⟨b,0,none⟩=some (.bool n)∧w.cell? ⟨b,1,none⟩=some (.string t)∧w.cell? ⟨b,2,none⟩=some (.int .i64 x))∧(w.frozen? ⟨b,0,none⟩=false∧w.frozen? ⟨b,1,none⟩=false∧w.frozen? ⟨b,2,none⟩=false) :=
  ⟨⟨h.2.1.cell 0,h.2.1.cell 1,h.2.1.cell 2⟩,h.2.1.frozen 0,h.2.1.frozen 1,h.2.1.frozen 2⟩
theorem OwnD.kept (h:OwnD w0 b n t x w) (hb:Below w.heap.size w w'):OwnD w0 b n t x w':=⟨h.1,h.2.1.keptAll hb,h.2.2.trans (hb.mono h.2.2.size)⟩
theorem OwnD.put (h:OwnD w0 b n t x w) (n':Bool) (t':ByteArray) (x':Int):OwnD w0 b n' t' x' (((w.setCell ⟨b,0,none⟩ (.bool n')).setCell ⟨b,1,none⟩ (.string t')).setCell ⟨b,2,none⟩ (.int .i64 x')) :=
  ⟨h.1,h.2.1.threeD,((h.2.2.setCell (p:=⟨b,0,none⟩) h.1 _).setCell (p:=⟨b,1,none⟩) h.1 _).setCell (p:=⟨b,2,none⟩) h.1 _⟩
end
theorem pwN_snoc (l:List UInt8) (b:UInt8):pwN (l++[b])=10*pwN l+(b.toNat-48):=by simp [pwN]
theorem pw_take (s:ByteArray) (i:Nat) (h:i<s.size):pwN (s.data.toList.take (i+1))=10*pwN (s.data.toList.take i)+(lk s i-48):=by
  have hl:i<s.data.toList.length:=by rw [Array.length_toList];exact h
  rw [List.take_add_one,List.getElem?_eq_getElem hl,Option.toList_some,pwN_snoc,lk_at s i h]
  rfl
theorem satF_pw (s:ByteArray):∀ i,i≤s.size→satF s i≤pwN (s.data.toList.take i)∧(satF s i<72057594037927936→satF s i=pwN (s.data.toList.take i))
  | 0,_=>⟨Nat.zero_le _,fun _=>rfl⟩
  | i+1,h=>by
    obtain ⟨h1,h2⟩:=satF_pw s i (by omega)
    rw [pw_take s i (by omega)]
    unfold satF
    split
    · rename_i h3
      rw [h2 h3]
      exact ⟨Nat.le_refl _,fun _=>rfl⟩
    · exact ⟨by omega,fun h4=>by omega⟩
theorem pow_same (n:Num):(powV n=powS n)∨((powV n≤-72057594037927936∧powS n≤-72057594037927936)∨(72057594037927936≤powV n∧72057594037927936≤powS n)):=by
  obtain ⟨h1,h2⟩:=satF_pw n.pw n.pw.size (Nat.le_refl _)
  have h3:n.pw.data.toList.take n.pw.size=n.pw.data.toList:=List.take_of_length_le (by rw [Array.length_toList];exact Nat.le_refl _)
  rw [h3] at h1 h2
  unfold powV powS
  by_cases h4:satF n.pw n.pw.size<72057594037927936
  · left;rw [h2 h4]
  · right
    cases n.dn
    · right;simp;omega
    · left;simp;omega
def wrV (n:Num):Value:=match worthS n with
  | none=>.tuple #[decV zeroD,.int .i64 111]
  | some d=>.tuple #[decV d,.int .i64 0]
theorem exp_same (n:Num) (h1:n.be.size≤562949953421312) (h2:(allS n).length≤1125899906842624):inB (powV n-(n.be.size:Int)+(((allS n).length-(digS n).length:Nat):Int))=inB (expS n)∧(inB (expS n)=true→powV n-(n.be.size:Int)+(((allS n).length-(digS n).length:Nat):Int)=expS n):=by
  rcases pow_same n with h | ⟨ha,hb⟩ | ⟨ha,hb⟩
  · unfold expS;rw [h];exact ⟨rfl,fun _=>rfl⟩
  · have e1:inB (expS n)=false:=by unfold inB expS;simp;omega
    have e2:inB (powV n-(n.be.size:Int)+(((allS n).length-(digS n).length:Nat):Int))=false:=by unfold inB;simp;omega
    rw [e1,e2];exact ⟨rfl,fun h=>by cases h⟩
  · have e1:inB (expS n)=false:=by unfold inB expS;simp;omega
    have e2:inB (powV n-(n.be.size:Int)+(((allS n).length-(digS n).length:Nat):Int))=false:=by unfold inB;simp;omega
    rw [e1,e2];exact ⟨rfl,fun h=>by cases h⟩
theorem powV_in (n:Num) (hd:∀ i,i<n.pw.size→dgB (lk n.pw i)=true):-720575940379279370≤powV n∧powV n≤720575940379279370:=by
  have:=satF_le n.pw hd n.pw.size (Nat.le_refl _)
  unfold powV
  split <;> omega
theorem data_append (a b:ByteArray):(a++b).data.toList=a.data.toList++b.data.toList:=by
  rw [ByteArray.data_append];simp
theorem size_list (a:ByteArray):a.data.toList.length=a.size:=by rw [Array.length_toList];rfl
def WrC (w0:World) (ng:Bool) (t1 t2:ByteArray) (dn:Bool) (t:ByteArray) (w:World):Prop:=At w w0.heap.size #[.bool ng,.string t1,.string t2,.bool dn,.string t] 194∧OwnD w0 (w0.heap.size+1) false ⟨#[]⟩ 0 w
section
variable {w0:World} {ng:Bool} {t1 t2:ByteArray} {dn:Bool} {t:ByteArray} {w w':World}
theorem WrC.kept (h:WrC w0 ng t1 t2 dn t w) (hb:Below w.heap.size w w'):WrC w0 ng t1 t2 dn t w':=⟨h.1.keptAll hb,h.2.kept hb⟩
theorem WrC.c2 (h:WrC w0 ng t1 t2 dn t w):w.cell? ⟨w0.heap.size,2,none⟩=some (.string t2):=h.1.cell 2
theorem WrC.rg (h:WrC w0 ng t1 t2 dn t w):w.rangeAt w0.heap.size 0 [.bool ng,.string t1,.string t2,.bool dn,.string t]:=h.1.range rfl
end
set_option maxRecDepth 10000 in
set_option maxHeartbeats 4000000 in
theorem worth_calls (n : Num) (h1 : n.wh.size ≤ 281474976710656) (h2 : n.be.size ≤ 281474976710656) (hs : n.pw.size ≤ 4611686018427387904) (hx : n.wh.size + n.be.size ≤ 281474976710656) (hd : Hid (∀ i, i < n.pw.size → dgB (lk n.pw i) = true)) (w : World) :
    Calls Tryz.prog 158 #[numV n] w fun e w'=>e = .returned (wrV n)∧Below w.heap.size w w':=by
  obtain ⟨P,hP⟩:∃ P,Hid (powV n=P):=⟨_,rfl⟩
  have hPin:=powV_in n hd.out
  rw [hP.out] at hPin
  have hpc:=hid (fun w1=>power_calls n hs hd P hP w1)
  have hex:=hid (exp_same n (by omega) (Nat.le_trans (trimL_length _ _) (by rw [List.length_append,size_list,size_list];omega)))
  rw [hP.out] at hex
  obtain ⟨T1,hT1⟩:∃ T,Hid ((⟨(Lib.trimLeftB n.wh.data.toList 48).toArray⟩:ByteArray)=T):=⟨_,rfl⟩
  obtain ⟨T2,hT2⟩:∃ T,Hid ((⟨(Lib.trimLeftB (T1++n.be).data.toList 48).toArray⟩:ByteArray)=T):=⟨_,rfl⟩
  have hall:=hid (show T2.data.toList=allS n by rw [← hT2.out,data_append,← hT1.out,allS];exact trimL_twice _ _ _)
  obtain ⟨T3,hT3⟩:∃ T,Hid ((⟨(Lib.trimRightB T2.data.toList 48).toArray⟩:ByteArray)=T):=⟨_,rfl⟩
  have hdig:=hid (show T3.data.toList=digS n by rw [← hT3.out,digS,hall.out])
  have hl2:T2.size≤281474976710656:=by
    rw [← size_list,hall.out]
    exact Nat.le_trans (trimL_length _ _) (by rw [List.length_append,size_list,size_list];omega)
  have hl1:T1.size≤281474976710656:=by
    rw [← size_list,← hT1.out]
    exact Nat.le_trans (trimL_length _ _) (by rw [size_list];exact h1)
  have hsum:¬ T1.size+n.be.size > 9223372036854775807:=by omega
  have hl3:T3.size≤T2.size:=by rw [← size_list,← size_list,hdig.out,hall.out];exact trimR_length _ _
  rw [← hall.out,← hdig.out,size_list,size_list] at hex
  obtain ⟨ng,t1,t2,dn,t⟩:=n
  have hwv:Hid (wrV ⟨ng,t1,t2,dn,t⟩=wrV ⟨ng,t1,t2,dn,t⟩):=rfl
  dsimp only [numV] at hpc hT1 hT2 h1 h2 hs hx hex hPin hsum ⊢
  have A0:=hid (show At ((w.alloc (.cells #[.bool ng,.string t1,.string t2,.bool dn,.string t] 194)).alloc (.cells #[.bool false,.string ⟨#[]⟩,.int .i64 0] 170)) w.heap.size #[.bool ng,.string t1,.string t2,.bool dn,.string t] 194 from (At.new w _ _).alloc _)
  have D0:=hid (show OwnD w (w.heap.size+1) false ⟨#[]⟩ 0 ((w.alloc (.cells #[.bool ng,.string t1,.string t2,.bool dn,.string t] 194)).alloc (.cells #[.bool false,.string ⟨#[]⟩,.int .i64 0] 170)) from
    ⟨by omega,by have:=At.new (w.alloc (.cells #[.bool ng,.string t1,.string t2,.bool dn,.string t] 194)) #[.bool false,.string ⟨#[]⟩,.int .i64 0] 170;simpa using this,by exact bw⟩)
  go_enter Tryz.func158,Tryz.ntmps158
  go_wp2_with fail
  refine Calls.mono (trimL_calls _ T1 hT1 _) ?_
  rintro e w1 ⟨rfl,rfl⟩
  generalize hW:(w.alloc (.cells #[.bool ng,.string t1,.string t2,.bool dn,.string t] 194)).alloc (.cells #[.bool false,.string ⟨#[]⟩,.int .i64 0] 170)=W0 at A0 D0 ⊢
  clear hW
  have c0:W0.cell? ⟨w.heap.size,0,none⟩=some (.bool ng):=A0.out.cell 0
  have c2:W0.cell? ⟨w.heap.size,2,none⟩=some (.string t2):=A0.out.cell 2
  go_wp2_with fail
  refine Calls.mono (trimL_calls _ T2 hT2 _) ?_
  rintro e w1 ⟨rfl,hw⟩
  obtain rfl:W0=w1:=hw.symm
  clear hw
  clear hsum hT1 hT2 h1 hx hl1
  by_cases h0:T2.size=0
  · have ha:allS ⟨ng,t1,t2,dn,t⟩=[]:=by rw [← hall.out];exact List.eq_nil_of_length_eq_zero (by rw [size_list];exact h0)
    have e0:(T2.toList == [])=true:=by
      have:T2.toList=[]:=by rw [Lib.toList_data,hall.out,ha]
      rw [this];rfl
    have hv:=hid (show wrV ⟨ng,t1,t2,dn,t⟩ = .tuple #[.agg #[.bool ng,.string ⟨#[]⟩,.int .i64 0],.int .i64 0] by rw [wrV,worthS,if_pos ha];rfl)
    obtain ⟨⟨d0,d1,d2⟩,f0,f1,f2⟩:=D0.out.facts
    clear h0 ha hex hpc hP hd hPin hT3 hall hdig
    go_wp2
    refine ret_dec rfl rfl (D0.out.put _ _ _).2.1 rfl ⟨?_,(D0.out.put _ _ _).2.2⟩
    rw [hv.out]
    rfl
  · have ha:¬ allS ⟨ng,t1,t2,dn,t⟩=[]:=fun e=>h0 (by rw [← size_list,hall.out,e];rfl)
    have e0:(T2.toList == [])=false:=by
      apply beq_eq_false_iff_ne.2
      rw [Lib.toList_data,hall.out]
      exact ha
    have ha':=hid ha
    clear ha h0
    go_wp2_with fail
    refine Calls.mono (trimR_calls _ (by omega) T3 hT3 _) ?_
    rintro e w1 ⟨rfl,hw⟩
    obtain rfl:W0=w1:=hw.symm
    clear hw
    clear hT3
    obtain ⟨x1,hx1⟩:∃ x,IntKind.i64.wrap (P-(t2.size:Int))=x:=⟨_,rfl⟩
    obtain ⟨x2,hx2⟩:∃ x,IntKind.i64.wrap ((T2.size:Int)-(T3.size:Int))=x:=⟨_,rfl⟩
    obtain ⟨x3,hx3⟩:∃ x,IntKind.i64.wrap (x1+x2)=x:=⟨_,rfl⟩
    have y1:x1=P-(t2.size:Int):=by rw [← hx1,IntKind.wrap_i64];omega
    have y2:x2=(T2.size:Int)-(T3.size:Int):=by rw [← hx2,IntKind.wrap_i64];omega
    have y3:=hid (show x3=P-(t2.size:Int)+((T2.size-T3.size:Nat):Int) by rw [← hx3,IntKind.wrap_i64,y1,y2];omega)
    rw [← y3.out] at hex
    obtain ⟨B,hB⟩:∃ B,Hid (inB x3=B):=⟨_,rfl⟩
    rw [hB.out] at hex
    have hbc:=hid (fun w1=>inBd_calls x3 B hB w1)
    clear y1 y2 y3 hB hP hd hPin
    have hS:W0.drew.cell? ⟨w.heap.size,2,none⟩=some (.string t2)∧WrC w ng t1 t2 dn t W0.drew:=⟨c2,A0.out,⟨D0.out.1,D0.out.2.1,D0.out.2.2.drew⟩⟩
    clear c0 c2 A0 D0
    go_wp2
    refine wp_region_quiet (C:=(fun w'=>w'.cell? ⟨w.heap.size,2,none⟩=some (.string t2)∧WrC w ng t1 t2 dn t w')) (by kernel_rfl) (by kernel_rfl) (hS) ?_
    dsimp only
    repeat (first
      | (refine wpQuiet_skip (by rfl) ?_;simp only [psA])
      | (refine wpQuiet_load 194 _ (w.heap.size) (0) [.bool ng,.string t1,.string t2,.bool dn,.string t] _ (fun wq hq=>WrC.rg hq.2) Tryz.underlying194 sizePs rfl rfl rfl (by rfl) ?_;simp only [psA])
      | (refine' wpQuiet_take (by rfl) ?_ ?_
         rotate_left
         · (intro wq hq;(try dsimp only at hq);go_simp
            first
              | done
              | with_reducible rfl
              | (go_at_call 175;with_reducible refine (hpc.out _).mono ?_;rintro e wz ⟨rfl,hb⟩;exact ⟨rfl,WrC.c2 (WrC.kept hq.2 hb),WrC.kept hq.2 hb⟩)
           )
         simp only [psA]))
    refine wpQuiet_nil ?_
    rintro w2 ⟨-,A2,D2⟩
    have A2':=hid A2
    have D2':=hid D2
    clear A2 D2 hS hpc hx1 hx2 hx3
    go_wp2_with fail
    refine Calls.mono (hbc.out _) ?_
    rintro e w3 ⟨rfl,hw⟩
    obtain rfl:w2=w3:=hw.symm
    clear hw
    clear hbc
    cases B with
    | false =>
      have hv:=hid (show wrV ⟨ng,t1,t2,dn,t⟩ = .tuple #[.agg #[.bool false,.string ⟨#[]⟩,.int .i64 0],.int .i64 111] by rw [wrV,worthS,if_neg ha'.out,← hex.out.1];rfl)
      obtain ⟨⟨d0,d1,d2⟩,f0,f1,f2⟩:=D2'.out.facts
      go_wp2
      refine ret_dec rfl rfl (D2'.out.put _ _ _).2.1 rfl ⟨?_,(D2'.out.put _ _ _).2.2⟩
      rw [hv.out]
      rfl
    | true =>
      have hv:=hid (show wrV ⟨ng,t1,t2,dn,t⟩ = .tuple #[.agg #[.bool ng,.string T3,.int .i64 x3],.int .i64 0] by
        rw [wrV,worthS,if_neg ha'.out,← hex.out.1,if_pos rfl]
        show Value.tuple #[.agg #[.bool ng,.string ⟨(digS ⟨ng,t1,t2,dn,t⟩).toArray⟩,.int .i64 (expS ⟨ng,t1,t2,dn,t⟩)],.int .i64 0]=_
        rw [← hex.out.2 hex.out.1.symm,← hdig.out,Lib.mk_data])
      have hcc:=hid (fun w1=>clone_calls T3 (by omega) w1)
      clear hex ha' hdig hall
      go_wp2
      have hheld:w2.drew.cell? ⟨w.heap.size,0,none⟩=some (.bool ng):=A2'.out.cell 0
      refine wp_region_held_drew (S:=fun w'=>w'.cell? ⟨w.heap.size,0,none⟩=some (.bool ng)) (by kernel_rfl) hheld (fun hHeld=>?_)
      clear hHeld
      have hq0:Below w2.heap.size w2 w2.drew:=(Below.refl _ _).drew
      obtain ⟨v0,hv0⟩:∃ v,w2.drew=v:=⟨_,rfl⟩
      rw [hv0] at hq0 hheld ⊢
      clear hv0
      (refine' wpAnyH_take (i:=0) rfl (by kernel_rfl) (by kernel_rfl) (by kernel_rfl) (fun _ _ _ h=>h) (Or.inl ⟨by rfl,?_⟩) (by assumption) ?_;rotate_left;(· (intro wq hq;(try dsimp only at hq);go_simp;first | done | with_reducible rfl));simp only [psA])
      (refine' wpAnyH_take (i:=1) rfl (by kernel_rfl) (by kernel_rfl) (by kernel_rfl) (fun _ _ _ h=>h) (Or.inl ⟨by rfl,?_⟩) (by assumption) ?_;rotate_left;(· (intro wq hq;(try dsimp only at hq);go_simp;first | done | with_reducible rfl));simp only [psA])
      (refine' wpAnyH_take (i:=2) rfl (by kernel_rfl) (by kernel_rfl) (by kernel_rfl) (fun _ _ _ h=>h) (Or.inl ⟨by rfl,?_⟩) (by assumption) ?_;rotate_left;(· (intro wq hq;(try dsimp only at hq);go_simp;first | done | with_reducible rfl));simp only [psA])
      (refine' wpAnyH_take (i:=4) rfl (by kernel_rfl) (by kernel_rfl) (by kernel_rfl) (fun _ _ _ h=>h) (Or.inl ⟨by rfl,?_⟩) (by assumption) ?_;rotate_left;(· (intro wq hq;(try dsimp only at hq);go_simp;first | done | with_reducible rfl));simp only [psA])
      refine wpAnyH_ready (rs:=[3]) (by kernel_rfl) (by simp) ?_
      refine AllReadyH.cons rfl (fun K hK=>?_) ?_
      · rw [if_pos (by rfl)]
        go_simp
        refine Calls.mono (hcc.out _) ?_
        rintro e v1 ⟨rfl,q1⟩
        have hq1:Below w2.heap.size w2 v1:=hq0.trans (q1.mono hq0.size)
        have A3:=hid (A2'.out.keptAll hq1)
        have D3:=hid (D2'.out.kept hq1)
        refine hK.out _ _ (A3.out.cell 0) (fun _=>?_)
        clear hK K hcc A2' D2' q1 hq1 hq0 hheld
        (refine' wpAnyH_take (i:=5) rfl (by kernel_rfl) (by kernel_rfl) (by kernel_rfl) (fun _ _ _ h=>h) (Or.inl ⟨by rfl,?_⟩) (by assumption) ?_;rotate_left;(· (intro wq hq;(try dsimp only at hq);go_simp;first | done | with_reducible rfl));simp only [psA])
        refine wpAnyH_ready (rs:=[6]) (by kernel_rfl) (by simp) ?_
        refine AllReadyH.cons rfl (fun K hK=>?_) ?_
        · obtain ⟨⟨d0,d1,d2⟩,f0,f1,f2⟩:=D3.out.facts
          go_simp
          refine hK.out _ _ (show World.cell? _ _=_ from (((A3.out.other (p:=⟨w.heap.size+1,0,none⟩) (by simp) _).other (p:=⟨w.heap.size+1,1,none⟩) (by simp) _).other (p:=⟨w.heap.size+1,2,none⟩) (by simp) _).cell 0) (fun _=>?_)
          clear hK K d0 d1 d2 f0 f1 f2
          (refine' wpAnyH_take (i:=7) rfl (by kernel_rfl) (by kernel_rfl) (by kernel_rfl) (fun _ _ _ h=>h) (Or.inl ⟨by rfl,?_⟩) (by assumption) ?_;rotate_left;(· (intro wq hq;(try dsimp only at hq);go_simp;first | done | with_reducible rfl));simp only [psA])
          refine wpAnyH_done (by kernel_rfl) ?_ _
          go_wp2
          refine ret_dec rfl rfl (D3.out.put ng T3 x3).2.1 rfl ⟨?_,(D3.out.put ng T3 x3).2.2⟩
          rw [hv.out]
          rfl
        exact AllReadyH.nil
      exact AllReadyH.nil
end Go.Proofs.YtongedjlmohogaaGreatDoor
/- What decimal.Read and decimal.Of answer. -/
namespace Go.Proofs.YtongedjlmohogaaGreatDoor
open Go.RowKit Go.Shelf
theorem lk_extract (s:ByteArray) (a b i:Nat) (h:i<b-a) (hb:b≤s.size):lk (s.extract a b) i=lk s (a+i):=by
  have h1:i<(s.extract a b).size:=by rw [ByteArray.size_extract];omega
  rw [lk_at _ i h1,lk_at s (a+i) (by omega),ByteArray.getElem_extract]
theorem num_of {s : ByteArray} {p e : Nat} {n : Num} (h : scanS s p = (some n, e)) (hp : p ≤ s.size) :
    n.wh.size+n.be.size≤s.size∧n.pw.size≤s.size∧(∀ i,i<n.pw.size→dgB (lk n.pw i)=true):=by
  unfold scanS at h
  split at h
  · cases h
  · split at h
    · cases h
    · split at h
      · cases h
      · simp only [Prod.mk.injEq,Option.some.injEq] at h
        obtain ⟨rfl,rfl⟩:=h
        have hA:=scA_le s p hp
        have hB:=scB_le s p hp
        have hAB:=scA_B s p
        have hC:=scC_le s p hp
        refine ⟨?_,?_,?_⟩
        · show (s.extract _ _).size+(scBe s p).size≤_
          rw [ByteArray.size_extract]
          unfold scBe
          split
          · rename_i h1
            rw [ByteArray.size_extract]
            have h2:scC s p=rn s (scB s p+1):=by rw [scC,if_pos h1]
            have h3:=rn_ge s (scB s p+1)
            omega
          · show _+0≤_
            omega
        · show (scPw s p).size≤_
          unfold scPw
          split
          · rw [ByteArray.size_extract];omega
          · exact Nat.zero_le _
        · show ∀ i,i<(scPw s p).size→dgB (lk (scPw s p) i)=true
          unfold scPw
          split
          · rename_i h1
            have h2:scH s p=rn s (scF s p):=by rw [scH,if_pos h1]
            have h3:=scF_le s p h1
            have h4:=rn_le s _ h3
            intro i hi
            rw [ByteArray.size_extract] at hi
            rw [lk_extract s _ _ i (by omega) (by omega)]
            exact rn_dig s (scF s p) (scF s p+i) (by omega) (by omega)
          · intro i hi
            exact absurd hi (Nat.not_lt_zero _)
theorem scan_end {s:ByteArray} {p:Nat} (hp:p≤s.size):(scanS s p).2≤s.size:=by
  have hA:=scA_le s p hp
  have hB:=scB_le s p hp
  have hC:=scC_le s p hp
  unfold scanS
  split
  · exact hA
  · split
    · rename_i h1
      have:=lk_in (s:=s) (i:=scB s p) (by omega)
      show scB s p+1≤_
      omega
    · split
      · rename_i h1
        exact scF_le s p h1.1
      · show scH s p≤_
        unfold scH
        split
        · rename_i h1
          exact rn_le s _ (scF_le s p h1)
        · exact hC
def readV (s:ByteArray) (p:Nat):Value:=.tuple #[decV (readS s p).1,.int .i64 ((readS s p).2.1:Int),.int .i64 ((readS s p).2.2:Int)]
set_option maxRecDepth 10000 in
set_option maxHeartbeats 4000000 in
theorem readD_calls (s : ByteArray) (p : Nat) (hs : s.size ≤ 281474976710656) (hp : p ≤ s.size) (w : World) :
    Calls Tryz.prog 146 #[.string s,.int .i64 (p:Int)] w fun e w'=>e = .returned (readV s p)∧Below w.heap.size w w':=by
  have hsc:=hid (fun w1=>scan_calls s p (by omega) hp w1)
  have e1:decide ((p:Int)<0)=false:=by simp
  have e2:decide ((s.size:Int)<(p:Int))=false:=by simp;omega
  have D0:=hid (show OwnD w w.heap.size false ⟨#[]⟩ 0 (w.alloc (.cells #[.bool false,.string ⟨#[]⟩,.int .i64 0] 170)) from ⟨Nat.le_refl _,At.new w _ _,by exact bw⟩)
  obtain ⟨r,hr⟩:∃ r,scanS s p=r:=⟨_,rfl⟩
  obtain ⟨on,en⟩:=r
  have hen:en≤s.size:=by have:=scan_end (s:=s) hp;rw [hr] at this;exact this
  go_enter Tryz.func146,Tryz.ntmps146
  go_wp2_with fail
  refine Calls.mono (hsc.out _) ?_
  rintro e w1 ⟨rfl,hb⟩
  have D1:=hid (D0.out.kept hb)
  clear D0 hsc hb e1 e2
  obtain ⟨⟨c0,c1,c2⟩,f0,f1,f2⟩:=D1.out.facts
  cases on with
  | none =>
    rw [scV_none hr]
    have hv:=hid (show readV s p = .tuple #[.agg #[.bool false,.string ⟨#[]⟩,.int .i64 0],.int .i64 (en:Int),.int .i64 110] by rw [readV,readS,hr];rfl)
    clear hr
    dsimp only [numV,noNum]
    have D2:=hid (D1.out.kept (w':=w1.alloc (.cells #[.bool false,.string ⟨#[]⟩,.string ⟨#[]⟩,.bool false,.string ⟨#[]⟩] 194)) ((Below.refl _ _).alloc (Nat.le_refl _) _))
    have hlt:=D1.out.2.1.lt
    clear D1 c0 c1 c2 f0 f1 f2
    go_upto_region 5 with fail
    generalize w1.alloc (.cells #[.bool false,.string ⟨#[]⟩,.string ⟨#[]⟩,.bool false,.string ⟨#[]⟩] 194)=w2 at D2 ⊢
    obtain ⟨⟨c0,c1,c2⟩,f0,f1,f2⟩:=D2.out.facts
    go_wp2
    refine ret_dec3 rfl rfl (D2.out.put _ _ _).2.1 rfl ⟨?_,(D2.out.put _ _ _).2.2⟩
    rw [hv.out]
    rfl
  | some n =>
    rw [scV_some hr]
    obtain ⟨z1,z2,z3⟩:=num_of hr hp
    have hwc:=hid (fun w1=>worth_calls n (by omega) (by omega) (by omega) (by omega) z3 w1)
    obtain ⟨d,er,hd⟩:∃ d er,wrV n = .tuple #[decV d,.int .i64 (er:Int)]∧readV s p = .tuple #[decV d,.int .i64 (en:Int),.int .i64 (er:Int)]:=by
      have h1:readS s p=match worthS n with | none=>(zeroD,en,111) | some d=>(d,en,0):=by rw [readS,hr];rfl
      cases hw:worthS n with
      | none=>rw [hw] at h1;exact ⟨zeroD,(111:Nat),by rw [wrV,hw];rfl,by rw [readV,h1]⟩
      | some d=>rw [hw] at h1;exact ⟨d,(0:Nat),by rw [wrV,hw];rfl,by rw [readV,h1]⟩
    have hv:=hid hd.2
    rw [hd.1] at hwc
    obtain ⟨dn,dd,dx⟩:=d
    obtain ⟨ng,t1,t2,dw,t⟩:=n
    clear hr hd z1 z2 z3
    dsimp only [numV,decV] at hwc hv ⊢
    obtain ⟨TD,hTD⟩:∃ TD:ByteArray,(⟨dd.toArray⟩:ByteArray)=TD:=⟨_,rfl⟩
    rw [hTD] at hwc hv
    clear hTD
    have D2:=hid (D1.out.kept (w':=w1.alloc (.cells #[.bool ng,.string t1,.string t2,.bool dw,.string t] 194)) ((Below.refl _ _).alloc (Nat.le_refl _) _))
    have hlt:=hid D1.out.2.1.lt
    clear D1 c0 c1 c2 f0 f1 f2
    go_wp2_with fail
    refine Calls.mono (hwc.out _) ?_
    rintro e w3 ⟨rfl,hb⟩
    have D3:=hid (D2.out.kept hb)
    clear D2 hwc hb
    obtain ⟨⟨c0,c1,c2⟩,f0,f1,f2⟩:=D3.out.facts
    have D4:=hid (D3.out.put dn TD dx)
    go_upto_region 7 with fail
    generalize ((w3.setCell ⟨w.heap.size,0,none⟩ (.bool dn)).setCell ⟨w.heap.size,1,none⟩ (.string TD)).setCell ⟨w.heap.size,2,none⟩ (.int .i64 dx)=w4 at D4 ⊢
    clear c0 c1 c2 f0 f1 f2 D3
    obtain ⟨⟨c0,c1,c2⟩,f0,f1,f2⟩:=D4.out.facts
    go_wp2
    refine ret_dec3 rfl rfl (D4.out.put _ _ _).2.1 rfl ⟨?_,(D4.out.put _ _ _).2.2⟩
    rw [hv.out]
    rfl
theorem ofS_zero (s:ByteArray) (h:(readS s 0).2.1≠s.size):ofS s=(zeroD,110):=by rw [ofS,if_neg h]
theorem ofS_same (s:ByteArray) (h:(readS s 0).2.1=s.size):ofS s=((readS s 0).1,(readS s 0).2.2):=by rw [ofS,if_pos h]
theorem read_end {s:ByteArray} {p:Nat} (hp:p≤s.size):(readS s p).2.1≤s.size:=by
  have h:=scan_end (s:=s) hp
  unfold readS
  split
  · exact h
  · split <;> exact h
def ofV (s:ByteArray):Value:=.tuple #[decV (ofS s).1,.int .i64 ((ofS s).2:Int)]
set_option maxRecDepth 10000 in
set_option maxHeartbeats 4000000 in
theorem ofD_calls (s : ByteArray) (hs : s.size ≤ 281474976710656) (w : World) :
    Calls Tryz.prog 128 #[.string s] w fun e w'=>e = .returned (ofV s)∧Below w.heap.size w w':=by
  have hrc:=hid (fun w1=>readD_calls s 0 hs (Nat.zero_le _) w1)
  have hen:=read_end (s:=s) (Nat.zero_le _)
  have D0:=hid (show OwnD w w.heap.size false ⟨#[]⟩ 0 (w.alloc (.cells #[.bool false,.string ⟨#[]⟩,.int .i64 0] 170)) from ⟨Nat.le_refl _,At.new w _ _,by exact bw⟩)
  obtain ⟨r,hr⟩:∃ r,readS s 0=r:=⟨_,rfl⟩
  obtain ⟨⟨dn,dd,dx⟩,en,er⟩:=r
  have hrc2:=hrc.out
  unfold readV at hrc2
  rw [hr] at hrc2 hen
  dsimp only [decV] at hrc2 hen
  have hfin:(en≠s.size→ofV s = .tuple #[.agg #[.bool false,.string ⟨#[]⟩,.int .i64 0],.int .i64 110])∧(en=s.size→ofV s = .tuple #[.agg #[.bool dn,.string ⟨dd.toArray⟩,.int .i64 dx],.int .i64 (er:Int)]):=by
    constructor
    · intro h;rw [ofV,ofS_zero s (by rw [hr];exact h)];rfl
    · intro h;rw [ofV,ofS_same s (by rw [hr];exact h),hr];rfl
  obtain ⟨TD,hTD⟩:∃ TD:ByteArray,(⟨dd.toArray⟩:ByteArray)=TD:=⟨_,rfl⟩
  rw [hTD] at hrc2 hfin
  have hrc3:=hid hrc2
  have hfin':=hid hfin
  clear hTD hrc hrc2 hr hfin
  go_enter Tryz.func128,Tryz.ntmps128
  go_wp2_with fail
  refine Calls.mono (hrc3.out _) ?_
  rintro e w1 ⟨rfl,hb⟩
  have D1:=hid (D0.out.kept hb)
  clear D0 hrc3 hb
  have B1:=hid (At.new w1 #[.bool dn,.string TD,.int .i64 dx] 170)
  have D2:=hid (D1.out.kept (w':=w1.alloc (.cells #[.bool dn,.string TD,.int .i64 dx] 170)) ((Below.refl _ _).alloc (Nat.le_refl _) _))
  have hlt:=hid D1.out.2.1.lt
  go_upto_region 2 with fail
  generalize hb1:w1.heap.size=b1 at B1 hlt ⊢
  generalize w1.alloc (.cells #[.bool dn,.string TD,.int .i64 dx] 170)=w2 at B1 D2 ⊢
  clear D1 hb1
  obtain ⟨⟨c0,c1,c2⟩,f0,f1,f2⟩:=D2.out.facts
  by_cases he:en=s.size
  · have e1:((en:Int) != (s.size:Int))=false:=by simp [he]
    have hv:=hid (hfin'.out.2 he)
    have g0:w2.cell? ⟨b1,0,none⟩=some (.bool dn):=B1.out.cell 0
    have g1:w2.cell? ⟨b1,1,none⟩=some (.string TD):=B1.out.cell 1
    have g2:w2.cell? ⟨b1,2,none⟩=some (.int .i64 dx):=B1.out.cell 2
    clear hfin' he
    go_wp2
    refine ret_dec rfl rfl (D2.out.put _ _ _).2.1 rfl ⟨?_,(D2.out.put _ _ _).2.2⟩
    rw [hv.out]
    rfl
  · have e1:((en:Int) != (s.size:Int))=true:=by simp;omega
    have hv:=hid (hfin'.out.1 he)
    clear hfin' he
    go_wp2
    refine ret_dec rfl rfl (D2.out.put _ _ _).2.1 rfl ⟨?_,(D2.out.put _ _ _).2.2⟩
    rw [hv.out]
    rfl
end Go.Proofs.YtongedjlmohogaaGreatDoor

namespace Go.Proofs.YtongedjlmohogaaGreatDoor
open Go.RowKit Go.Shelf
def ParP (b g:Nat) (s:ByteArray) (j:Nat) (t:Vt) (w:World) (e:Ending) (w':World):Prop:=∃ x:Value,e = .returned x∧ValOn (fun c=>w.heap.size≤c) w' t x∧PaI b g s j w'∧PFr b w w'
theorem PaI.same {b g i p:Nat} {s:ByteArray} {w w':World} (h:PaI b g s i w) (hs:SameOn (fun c=>c≠p) w w') (hb:b≠p) (hg:g≠p):PaI b g s i w' :=
  ⟨(hs.2 b hb h.at_.lt).trans h.at_,(hs.2 g hg h.tk.lt).trans h.tk,h.ne⟩
theorem PFr.setO {b p:Nat} {w W:World} (h:PFr b w W) (hp:w.heap.size≤p) (k:Nat) (v:Value):PFr b w (W.setCell ⟨p,k,none⟩ v) :=
  ⟨h.os,h.tape,h.output,by simpa using h.size,fun i hi hb=>(Below.heap_setCell W ⟨p,k,none⟩ v i (show i≠p by omega)).trans (h.block i hi hb)⟩
theorem PFr.six {b p:Nat} {w W:World} (h:PFr b w W) (hp:w.heap.size≤p) (y0 y1 y2 y3 y4 y5:Value):PFr b w ((((((W.setCell ⟨p,0,none⟩ y0).setCell ⟨p,1,none⟩ y1).setCell ⟨p,2,none⟩ y2).setCell ⟨p,3,none⟩ y3).setCell ⟨p,4,none⟩ y4).setCell ⟨p,5,none⟩ y5) :=
  (((((h.setO hp _ _).setO hp _ _).setO hp _ _).setO hp _ _).setO hp _ _).setO hp _ _
def GoP (b g:Nat) (s:ByteArray) (k c:Nat) (w:World) (e:Ending) (w':World):Prop:=(byteAt s k=c∧e = .returned (.bool false)∧PaI b g s (k+1) w'∧PFr b w w')∨(byteAt s k≠c∧e = .returned (.bool true)∧PaI b g s (if byteAt s k=44 then k+1 else k) w'∧PFr b w w')
theorem leafOn (S:Nat→Prop) (w:World) (k:Int) (b:Bool) (r t:ByteArray) (hw:(Lit.int .i64 k).wf=true) (hr:r.size≤capT) (ht:t.size≤capT):ValOn S w (.mk k b r t [] []) (.agg #[.int .i64 k,.bool b,.string r,.string t,.slice none 0 0,.slice none 0 0]) :=
  .mk k b r t [] [] none 0 none 0 (fun _=>#[]) hw ⟨hr,ht,Nat.zero_le _,Nat.zero_le _⟩ (fun i s h=>by simp at h) (fun i h=>by simp at h) (fun i u h=>by simp at h)
set_option maxRecDepth 10000 in
set_option maxHeartbeats 4000000 in
theorem nullP_calls (b g : Nat) (s : ByteArray) (hs : s.size ≤ 281474976710656) (i : Nat) (hi : i + 4 ≤ s.size) (w : World) (hP : Hid (PaI b g s i w)) :
    Calls Tryz.prog 138 #[.pointer (some ⟨b,0,none⟩)] w fun e w'=>ParP b g s (i+4) (.mk 1 false ⟨#[]⟩ ⟨#[]⟩ [] []) w e w':=by
  have hii:(i:Int)+4≤281474976710656:=by omega
  have hlb:=hP.out.at_.lt
  have hlg:=hP.out.tk.lt
  have A0:=hid (At.new w #[.int .i64 0,.bool false,.string ⟨#[]⟩,.string ⟨#[]⟩,.slice none 0 0,.slice none 0 0] 59)
  have q0:Below w.heap.size w (w.alloc (.cells #[.int .i64 0,.bool false,.string ⟨#[]⟩,.string ⟨#[]⟩,.slice none 0 0,.slice none 0 0] 59)):=(Below.refl _ w).alloc (Nat.le_refl _) _
  have P0:=hid (hP.out.kept q0)
  have F0:=hid (PFr.of_below (b:=b) q0)
  obtain ⟨p,hp⟩:∃ p,Hid (w.heap.size=p):=⟨_,rfl⟩
  have hpb:Hid (b≠p):=by show b≠p;have:=hp.out;omega
  have hpg:Hid (g≠p):=by show g≠p;have:=hp.out;omega
  rw [hp.out] at A0
  clear q0 hlb hlg
  go_enter Tryz.func138,Tryz.ntmps138
  go_upto_region 1 with fail
  rw [hp.out]
  generalize w.alloc (.cells #[.int .i64 0,.bool false,.string ⟨#[]⟩,.string ⟨#[]⟩,.slice none 0 0,.slice none 0 0] 59)=W1 at A0 P0 F0 ⊢
  have c1:W1.cell? ⟨b,1,none⟩=some (.int .i64 (i:Int)):=P0.out.at_.cell 1
  have g1:=P0.out.at_.frozen 1
  have A2:=hid (A0.out.other (p:=⟨b,1,none⟩) (Ne.symm hpb.out) (.int .i64 ((i:Int)+4)))
  have P2:=hid (P0.out.go ((i:Int)+4) (i+4) (by omega))
  have F2:=hid (F0.out.set 1 (.int .i64 ((i:Int)+4)))
  go_upto_region 2 with fail
  generalize W1.setCell ⟨b,1,none⟩ (.int .i64 ((i:Int)+4))=W2 at A2 P2 F2 ⊢
  clear c1 g1 A0 P0 F0
  have d0:=A2.out.cell 0
  have d1:=A2.out.cell 1
  have d2:=A2.out.cell 2
  have d3:=A2.out.cell 3
  have d4:=A2.out.cell 4
  have d5:=A2.out.cell 5
  simp only [List.getElem?_toArray,List.getElem?_cons_zero,List.getElem?_cons_succ] at d0 d1 d2 d3 d4 d5
  have f0:=A2.out.frozen 0
  have f1:=A2.out.frozen 1
  have f2:=A2.out.frozen 2
  have f3:=A2.out.frozen 3
  have f4:=A2.out.frozen 4
  have f5:=A2.out.frozen 5
  go_wp2
  refine ret_val1 (p:=2) rfl rfl (A2.out.six) rfl ?_
  exact ⟨_,rfl,leafOn _ _ _ _ _ _ (by decide) (by first | decide | assumption) (by first | decide | assumption),P2.out.same same_six hpb.out hpg.out,F2.out.six (Nat.le_of_eq hp.out) _ _ _ _ _ _⟩
set_option maxRecDepth 10000 in
set_option maxHeartbeats 4000000 in
theorem truthP_no (b g : Nat) (s : ByteArray) (hs : s.size ≤ 281474976710656) (i : Nat) (hi : i + 5 ≤ s.size) (hc : Hid (byteAt s i = 102)) (w : World) (hP : Hid (PaI b g s i w)) :
    Calls Tryz.prog 139 #[.pointer (some ⟨b,0,none⟩)] w fun e w'=>ParP b g s (i+5) (.mk 2 false ⟨#[]⟩ ⟨#[]⟩ [] []) w e w':=by
  have hii:(i:Int)+5≤281474976710656:=by omega
  have his:i<s.size:=by omega
  have hisi:(i:Int)<(s.size:Int):=by omega
  have hy:=byteAt_eq s i his
  rw [hc.out] at hy
  have hlb:=hP.out.at_.lt
  have hlg:=hP.out.tk.lt
  have A0:=hid (At.new w #[.int .i64 0,.bool false,.string ⟨#[]⟩,.string ⟨#[]⟩,.slice none 0 0,.slice none 0 0] 59)
  have q0:Below w.heap.size w (w.alloc (.cells #[.int .i64 0,.bool false,.string ⟨#[]⟩,.string ⟨#[]⟩,.slice none 0 0,.slice none 0 0] 59)):=(Below.refl _ w).alloc (Nat.le_refl _) _
  have P0:=hid (hP.out.kept q0)
  have F0:=hid (PFr.of_below (b:=b) q0)
  obtain ⟨p,hp⟩:∃ p,Hid (w.heap.size=p):=⟨_,rfl⟩
  have hpb:Hid (b≠p):=by show b≠p;have:=hp.out;omega
  have hpg:Hid (g≠p):=by show g≠p;have:=hp.out;omega
  rw [hp.out] at A0
  clear q0 hlb hlg
  go_enter Tryz.func139,Tryz.ntmps139
  go_upto_region 1 with fail
  rw [hp.out]
  generalize w.alloc (.cells #[.int .i64 0,.bool false,.string ⟨#[]⟩,.string ⟨#[]⟩,.slice none 0 0,.slice none 0 0] 59)=W1 at A0 P0 F0 ⊢
  have c0:W1.cell? ⟨b,0,none⟩=some (.string s):=P0.out.at_.cell 0
  have c1:W1.cell? ⟨b,1,none⟩=some (.int .i64 (i:Int)):=P0.out.at_.cell 1
  go_wp2
  refine wp_region_quiet (C:=(fun w'=>w'.cell? ⟨b,0,none⟩=some (.string s)∧w'.cell? ⟨b,1,none⟩=some (.int .i64 (i:Int))∧Below W1.heap.size W1 w')) (by kernel_rfl) (by kernel_rfl) (⟨c0,c1,(Below.refl _ _).drew⟩) ?_
  dsimp only
  repeat (first
    | (refine wpQuiet_skip (by rfl) ?_;simp only [psA])
    | (refine' wpQuiet_take (by rfl) ?_ ?_
       rotate_left
       · (intro wq hq;(try dsimp only at hq);go_simp
          first
            | done
            | with_reducible rfl
         )
       simp only [psA]))
  refine wpQuiet_nil ?_
  intro w5 hw5
  have A1:=hid (A0.out.keptAll hw5.2.2)
  have P1:=hid (P0.out.kept hw5.2.2)
  have F1:=hid (F0.out.trans (PFr.of_below hw5.2.2))
  clear hw5 c0 c1 A0 P0 F0
  have c1:w5.cell? ⟨b,1,none⟩=some (.int .i64 (i:Int)):=P1.out.at_.cell 1
  have g1:=P1.out.at_.frozen 1
  have A2:=hid (A1.out.other (p:=⟨b,1,none⟩) (Ne.symm hpb.out) (.int .i64 ((i:Int)+5)))
  have P2:=hid (P1.out.go ((i:Int)+5) (i+5) (by omega))
  have F2:=hid (F1.out.set 1 (.int .i64 ((i:Int)+5)))
  go_upto_region 3 with fail
  generalize w5.setCell ⟨b,1,none⟩ (.int .i64 ((i:Int)+5))=W2 at A2 P2 F2 ⊢
  clear c1 g1 A1 P1 F1
  have d0:=A2.out.cell 0
  have d1:=A2.out.cell 1
  have d2:=A2.out.cell 2
  have d3:=A2.out.cell 3
  have d4:=A2.out.cell 4
  have d5:=A2.out.cell 5
  simp only [List.getElem?_toArray,List.getElem?_cons_zero,List.getElem?_cons_succ] at d0 d1 d2 d3 d4 d5
  have f0:=A2.out.frozen 0
  have f1:=A2.out.frozen 1
  have f2:=A2.out.frozen 2
  have f3:=A2.out.frozen 3
  have f4:=A2.out.frozen 4
  have f5:=A2.out.frozen 5
  go_wp2
  refine ret_val1 (p:=2) rfl rfl (A2.out.six) rfl ?_
  exact ⟨_,rfl,leafOn _ _ _ _ _ _ (by decide) (by first | decide | assumption) (by first | decide | assumption),P2.out.same same_six hpb.out hpg.out,F2.out.six (Nat.le_of_eq hp.out) _ _ _ _ _ _⟩
set_option maxRecDepth 10000 in
set_option maxHeartbeats 4000000 in
theorem truthP_yes (b g : Nat) (s : ByteArray) (hs : s.size ≤ 281474976710656) (i : Nat) (hi : i + 4 ≤ s.size) (hc : Hid (byteAt s i = 116)) (w : World) (hP : Hid (PaI b g s i w)) :
    Calls Tryz.prog 139 #[.pointer (some ⟨b,0,none⟩)] w fun e w'=>ParP b g s (i+4) (.mk 2 true ⟨#[]⟩ ⟨#[]⟩ [] []) w e w':=by
  have hii:(i:Int)+4≤281474976710656:=by omega
  have his:i<s.size:=by omega
  have hisi:(i:Int)<(s.size:Int):=by omega
  have hy:=byteAt_eq s i his
  rw [hc.out] at hy
  have hlb:=hP.out.at_.lt
  have hlg:=hP.out.tk.lt
  have A0:=hid (At.new w #[.int .i64 0,.bool false,.string ⟨#[]⟩,.string ⟨#[]⟩,.slice none 0 0,.slice none 0 0] 59)
  have q0:Below w.heap.size w (w.alloc (.cells #[.int .i64 0,.bool false,.string ⟨#[]⟩,.string ⟨#[]⟩,.slice none 0 0,.slice none 0 0] 59)):=(Below.refl _ w).alloc (Nat.le_refl _) _
  have P0:=hid (hP.out.kept q0)
  have F0:=hid (PFr.of_below (b:=b) q0)
  obtain ⟨p,hp⟩:∃ p,Hid (w.heap.size=p):=⟨_,rfl⟩
  have hpb:Hid (b≠p):=by show b≠p;have:=hp.out;omega
  have hpg:Hid (g≠p):=by show g≠p;have:=hp.out;omega
  rw [hp.out] at A0
  clear q0 hlb hlg
  go_enter Tryz.func139,Tryz.ntmps139
  go_upto_region 1 with fail
  rw [hp.out]
  generalize w.alloc (.cells #[.int .i64 0,.bool false,.string ⟨#[]⟩,.string ⟨#[]⟩,.slice none 0 0,.slice none 0 0] 59)=W1 at A0 P0 F0 ⊢
  have c0:W1.cell? ⟨b,0,none⟩=some (.string s):=P0.out.at_.cell 0
  have c1:W1.cell? ⟨b,1,none⟩=some (.int .i64 (i:Int)):=P0.out.at_.cell 1
  go_wp2
  refine wp_region_quiet (C:=(fun w'=>w'.cell? ⟨b,0,none⟩=some (.string s)∧w'.cell? ⟨b,1,none⟩=some (.int .i64 (i:Int))∧Below W1.heap.size W1 w')) (by kernel_rfl) (by kernel_rfl) (⟨c0,c1,(Below.refl _ _).drew⟩) ?_
  dsimp only
  repeat (first
    | (refine wpQuiet_skip (by rfl) ?_;simp only [psA])
    | (refine' wpQuiet_take (by rfl) ?_ ?_
       rotate_left
       · (intro wq hq;(try dsimp only at hq);go_simp
          first
            | done
            | with_reducible rfl
         )
       simp only [psA]))
  refine wpQuiet_nil ?_
  intro w5 hw5
  have A1:=hid (A0.out.keptAll hw5.2.2)
  have P1:=hid (P0.out.kept hw5.2.2)
  have F1:=hid (F0.out.trans (PFr.of_below hw5.2.2))
  clear hw5 c0 c1 A0 P0 F0
  have c1:w5.cell? ⟨b,1,none⟩=some (.int .i64 (i:Int)):=P1.out.at_.cell 1
  have g1:=P1.out.at_.frozen 1
  have A2:=hid (A1.out.other (p:=⟨b,1,none⟩) (Ne.symm hpb.out) (.int .i64 ((i:Int)+4)))
  have P2:=hid (P1.out.go ((i:Int)+4) (i+4) (by omega))
  have F2:=hid (F1.out.set 1 (.int .i64 ((i:Int)+4)))
  go_upto_region 5 with fail
  generalize w5.setCell ⟨b,1,none⟩ (.int .i64 ((i:Int)+4))=W2 at A2 P2 F2 ⊢
  clear c1 g1 A1 P1 F1
  have d0:=A2.out.cell 0
  have d1:=A2.out.cell 1
  have d2:=A2.out.cell 2
  have d3:=A2.out.cell 3
  have d4:=A2.out.cell 4
  have d5:=A2.out.cell 5
  simp only [List.getElem?_toArray,List.getElem?_cons_zero,List.getElem?_cons_succ] at d0 d1 d2 d3 d4 d5
  have f0:=A2.out.frozen 0
  have f1:=A2.out.frozen 1
  have f2:=A2.out.frozen 2
  have f3:=A2.out.frozen 3
  have f4:=A2.out.frozen 4
  have f5:=A2.out.frozen 5
  go_wp2
  refine ret_val1 (p:=2) rfl rfl (A2.out.six) rfl ?_
  exact ⟨_,rfl,leafOn _ _ _ _ _ _ (by decide) (by first | decide | assumption) (by first | decide | assumption),P2.out.same same_six hpb.out hpg.out,F2.out.six (Nat.le_of_eq hp.out) _ _ _ _ _ _⟩
set_option maxRecDepth 10000 in
set_option maxHeartbeats 4000000 in
theorem goesOnP_calls (b g : Nat) (s : ByteArray) (hs : s.size ≤ 281474976710656) (i k : Nat) (hk : Hid (IsSkip s i k)) (hks : k < s.size) (c : Nat) (w : World) (hP : Hid (PaI b g s i w)) :
    Calls Tryz.prog 156 #[.pointer (some ⟨b,0,none⟩),.int .u8 (c:Int)] w fun e w'=>GoP b g s k c w e w':=by
  have hbl:=hid (blanksP_calls b g s hs i k hk hks w hP)
  have hsi:(s.size:Int)≤281474976710656:=by omega
  have hki:(k:Int)<(s.size:Int):=by omega
  obtain ⟨y,hY⟩:∃ y,Hid (byteAt s k=y):=⟨_,rfl⟩
  have hy:=byteAt_eq s k hks
  rw [hY.out] at hy
  go_enter Tryz.func156,Tryz.ntmps156
  go_wp2_with fail
  refine Calls.mono hbl.out ?_
  rintro e w1 ⟨rfl,hP1,hF1⟩
  have P0:=hid hP1
  have F0:=hid hF1
  clear hbl hP1 hF1 hP
  have c0:w1.cell? ⟨b,0,none⟩=some (.string s):=P0.out.at_.cell 0
  have c1:w1.cell? ⟨b,1,none⟩=some (.int .i64 (k:Int)):=P0.out.at_.cell 1
  go_wp2
  refine wp_region_quiet (C:=(fun w'=>w'.cell? ⟨b,0,none⟩=some (.string s)∧w'.cell? ⟨b,1,none⟩=some (.int .i64 (k:Int))∧Below w1.heap.size w1 w')) (by kernel_rfl) (by kernel_rfl) (⟨c0,c1,(Below.refl _ _).drew⟩) ?_
  dsimp only
  repeat (first
    | (refine wpQuiet_skip (by rfl) ?_;simp only [psA])
    | (refine' wpQuiet_take (by rfl) ?_ ?_
       rotate_left
       · (intro wq hq;(try dsimp only at hq);go_simp
          first
            | done
            | with_reducible rfl
         )
       simp only [psA]))
  refine wpQuiet_nil ?_
  intro w5 hw5
  have P1:=hid (P0.out.kept hw5.2.2)
  have F1:=hid (F0.out.trans (PFr.of_below hw5.2.2))
  clear hw5 c0 c1 P0 F0
  have c1:w5.cell? ⟨b,1,none⟩=some (.int .i64 (k:Int)):=P1.out.at_.cell 1
  have g1:=P1.out.at_.frozen 1
  have P2:=hid (P1.out.go ((k:Int)+1) (k+1) (by omega))
  have F2:=hid (F1.out.set 1 (.int .i64 ((k:Int)+1)))
  by_cases hyc:y=c
  · have e1:((y:Int) == (c:Int))=true:=by simp [hyc]
    have hyc':=hid hyc
    clear hyc
    go_wp2
    go_ret
    exact .inl ⟨hY.out.trans hyc'.out,rfl,P2.out,F2.out⟩
  · have e1:((y:Int) == (c:Int))=false:=by simp;omega
    have hyc':=hid hyc
    clear hyc
    by_cases h44:y=44
    · have e2:((y:Int) == 44)=true:=by simp [h44]
      have h44':=hid h44
      clear h44
      go_wp2
      go_ret
      exact .inr ⟨by rw [hY.out];exact hyc'.out,rfl,by rw [if_pos (hY.out.trans h44'.out)];exact P2.out,F2.out⟩
    · have e2:((y:Int) == 44)=false:=by simp;omega
      have h44':=hid h44
      clear h44
      go_wp2
      go_ret
      exact .inr ⟨by rw [hY.out];exact hyc'.out,rfl,by rw [if_neg (by rw [hY.out];exact h44'.out)];exact P1.out,F1.out⟩
set_option maxRecDepth 10000 in
set_option maxHeartbeats 4000000 in
theorem quoted_calls (b g : Nat) (s : ByteArray) (hs : s.size ≤ 8388608) (i j : Nat) (T : ByteArray) (hT : Hid (Txt s i j T)) (w : World) (hP : Hid (PaI b g s i w)) :
    Calls Tryz.prog 155 #[.pointer (some ⟨b,0,none⟩)] w fun e w'=>e = .returned (.string T)∧PaI b g s j w'∧PFr b w w':=by
  obtain ⟨h1,e,hq,hj,hu⟩:=hT.out
  have hle:=hq.le
  have hq':=hid hq
  have hj':=hid hj
  have hun:=hid (fun u=>un_calls (s.extract (i+1) e) (by rw [ByteArray.size_extract];omega) T (unS (s.extract (i+1) e)).2 (hid (by rw [← hu])) u trivial)
  have hen:=hid (fun u=>end_calls s (by omega) ((i:Int)+1) (by exact WalkArith.wf_i64 (by omega)) u trivial)
  have hei:(e:Int)<(s.size:Int):=by omega
  have hie:(i:Int)+1≤(e:Int):=by omega
  have hsi:(s.size:Int)≤8388608:=by omega
  generalize (unS (s.extract (i+1) e)).2=E2 at hun
  clear h1 hq hj hu hT hle
  have c0:w.cell? ⟨b,0,none⟩=some (.string s):=hP.out.at_.cell 0
  have c1:w.cell? ⟨b,1,none⟩=some (.int .i64 (i:Int)):=hP.out.at_.cell 1
  go_enter Tryz.func155,Tryz.ntmps155
  go_wp2_with fail
  refine Calls.mono (hen.out _) ?_
  rintro r w1 ⟨⟨n,E,rfl,hE⟩,hb⟩
  obtain ⟨rfl,rfl⟩:=qe_isend hq'.out (by push_cast;exact hE)
  have P1:=hid (hP.out.kept hb)
  have F1:=hid (PFr.of_below (b:=b) hb)
  clear hb hE hen hP c0 c1
  have c0:w1.cell? ⟨b,0,none⟩=some (.string s):=P1.out.at_.cell 0
  have c1:w1.cell? ⟨b,1,none⟩=some (.int .i64 (i:Int)):=P1.out.at_.cell 1
  go_wp2_with fail
  refine Calls.mono (hun.out _) ?_
  rintro r w2 ⟨rfl,hb⟩
  have P2:=hid (P1.out.kept hb)
  have F2:=hid (F1.out.trans (PFr.of_below hb))
  clear hb hun P1 F1 c0 c1
  have c1:w2.cell? ⟨b,1,none⟩=some (.int .i64 (i:Int)):=P2.out.at_.cell 1
  have g1:=P2.out.at_.frozen 1
  have P3:=hid (P2.out.go ((e:Int)+1) j (by rw [hj'.out];omega))
  have F3:=hid (F2.out.set 1 (.int .i64 ((e:Int)+1)))
  go_wp2
  go_ret
  exact ⟨rfl,P3.out,F3.out⟩
end Go.Proofs.YtongedjlmohogaaGreatDoor

namespace Go.Proofs.YtongedjlmohogaaGreatDoor
open Go.RowKit Go.Shelf
theorem appendV {P:Program} {w:World} {base n z bytes:Nat} {t ty e:TypeId} {i:TypeInfo} {z0 v:Value} {xs:List Value} (ht:P.underlying t=some (.slice e)) (hi:P.info? e=some i) (hz:i.zero=some z0) (hsize:i.size=z) (hby:i.bytes=bytes) (hzs:z0.cells.size=z) (hsz:0<z)
  (hown:w.ownsRow base e z v n xs) (a:Addr) (m c:Nat) (news:List Value) (hl:news.length=m*z) (hnews:∀ j u,news[j]? = some u→w.cell? (a.add j)=some u) (h1:∀ u ∈ news,u.oneCell'=true) (h63:n+m≤maxLen) (hbytes:(n+m)*bytes≤140737488355328) (hbase:base≤w.heap.size) :
  ∃ v' w',(Builtin.append_ #[t,t] ty #[v,.slice (some a) m c]).run P w = .ok v' w'∧w'.ownsRow base e z v' (n+m) (xs++news) ∧
   ((∃ g cap,v = .slice (some ⟨g,0,none⟩) n cap∧v' = .slice (some ⟨g,0,none⟩) (n+m) cap∧w.grownBy w' (some g))∨((∀ g,v'.ownBlock=some g→w.heap.size≤g)∧w.grownBy w' none)):=by
 rcases hown.2 with ⟨rfl,rfl⟩ | ⟨g,cap,cur,rfl,hb,hg,hnc,hcm,hcs,htk⟩
 ·have hx:xs=[]:=List.length_eq_zero_iff.1 (by rw [hown.1,Nat.zero_mul])
  subst hx
  obtain ⟨v',w',hr,s1,s2,-⟩:=run_append_own (P:=P) w w.heap.size t ty e i z0 z bytes ht hi hz hsize hby hzs hsz (.slice none 0 0) 0 [] (World.ownsRow_nil w _ _ _) a m c news hl hnews h1 h63 hbytes (Nat.le_refl _)
  exact ⟨v',w',hr,s1.mono hbase,.inr ⟨fun g hg=>(s1.lt g hg).1,s2⟩⟩
 ·by_cases hgr:cap<n+m
  ·obtain ⟨v',w',hr,s1,s2⟩:=run_append_arg_grows (P:=P) w t ty e i z0 z bytes ht hi hz hsize hby hzs hsz ⟨g,0,none⟩ n cap xs hown.1 (hown.cells (g:=g) rfl) a m c news hl hnews hgr h63 hbytes
   exact ⟨v',w',hr,s1.mono hbase,.inr ⟨fun g hg=>(s1.lt g hg).1,s2⟩⟩
  ·obtain ⟨w',hr,s1,s2⟩:=run_append_own_spare (P:=P) w base t ty e i z ht hi hsize g n cap xs hown a m c news hl hnews h1 (by omega)
   exact ⟨_,w',hr,s1,.inl ⟨g,cap,rfl,rfl,s2⟩⟩
theorem infoVT:(Tryz.prog.info? 59).map (fun i=>(i.zero,i.size,i.bytes))=some (some (.agg #[.int .i64 0,.bool false,.string ⟨#[]⟩,.string ⟨#[]⟩,.slice none 0 0,.slice none 0 0]),6,96):=by kernel_rfl
theorem infoST:(Tryz.prog.info? 9).map (fun i=>(i.zero,i.size,i.bytes))=some (some (.string ⟨#[]⟩),1,16):=by kernel_rfl
theorem info_partsV {t:TypeId} {z:Value} {n m:Nat} (h:(Tryz.prog.info? t).map (fun i=>(i.zero,i.size,i.bytes))=some (some z,n,m)):∃ i,Tryz.prog.info? t=some i∧i.zero=some z∧i.size=n∧i.bytes=m:=by
 cases hi:Tryz.prog.info? t with
 | none=>rw [hi] at h;cases h
 | some i=>rw [hi] at h;simp at h;exact ⟨i,rfl,h.1,h.2.1,h.2.2⟩
def flatC (X:Nat→Array Value):Nat→List Value
 | 0=>[]
 | n+1=>flatC X n++(X n).toList
theorem flatC_len {X:Nat→Array Value}:∀ {n:Nat},(∀ i,i<n→(X i).size=6)→(flatC X n).length=n*6
 | 0,_=>rfl
 | n+1,h=>by
  rw [flatC,List.length_append,flatC_len (fun i hi=>h i (by omega))]
  have:=h n (by omega)
  simp only [Array.length_toList,this]
  omega
theorem flatC_get {X:Nat→Array Value}:∀ {n i j:Nat},(∀ i,i<n→(X i).size=6)→i<n→j<6→(flatC X n)[i*6+j]? = (X i)[j]?
 | 0,i,j,_,h,_=>by omega
 | n+1,i,j,h,hi,hj=>by
  have hl:=flatC_len (X:=X) (n:=n) (fun i hi=>h i (by omega))
  rw [flatC]
  by_cases e:i=n
  ·subst e
   rw [List.getElem?_append_right (by omega),hl,show i*6+j-i*6=j by omega]
   simp
  ·rw [List.getElem?_append_left (by omega)]
   exact flatC_get (fun i hi=>h i (by omega)) (by omega) hj
theorem flatC_congr {X Y:Nat→Array Value}:∀ {n:Nat},(∀ i,i<n→X i=Y i)→flatC X n=flatC Y n
 | 0,_=>rfl
 | n+1,h=>by rw [flatC,flatC,flatC_congr (fun i hi=>h i (by omega)),h n (by omega)]
def KidsG (B:Nat) (k:Option Nat) (w:World) (v:Value) (vs:List Vt):Prop :=
 ∃ X:Nat→Array Value,w.ownsRow B 59 6 v vs.length (flatC X vs.length)∧(∀ i,i<vs.length→(X i).size=6)∧∀ (i:Nat) (u:Vt),vs[i]? = some u→ValOn (fun c=>B≤c∧v.ownBlock≠some c∧k≠some c) w u (.agg (X i))
def KeysG (B:Nat) (w:World) (v:Value) (ks:List ByteArray):Prop :=
 w.ownsRow B 9 1 v ks.length (ks.map Value.string)∧∀ (i:Nat) (s:ByteArray),ks[i]? = some s→s.size≤capT
section
variable {B:Nat} {k:Option Nat} {W W':World} {v v':Value} {vs:List Vt} {ks:List ByteArray}
theorem own_on {e:TypeId} {z n:Nat} {xs:List Value} (h:W.ownsRow B e z v n xs) (hs:∀ g,v.ownBlock=some g→B≤g→g<W.heap.size→W'.heap[g]? = W.heap[g]?):W'.ownsRow B e z v n xs:=by
 have hlt:=h.lt
 refine ⟨h.1,?_⟩
 rcases h.2 with h2 | ⟨g,cap,cur,rfl,hb,hg,h3⟩
 ·exact .inl h2
 ·exact .inr ⟨g,cap,cur,rfl,hb,(hs g rfl hb (hlt g rfl).2).trans hg,h3⟩
theorem KidsG.nil (B:Nat) (k:Option Nat) (W:World):KidsG B k W (.slice none 0 0) []:=⟨fun _=>#[],by simpa [flatC] using World.ownsRow_nil W B 59 6,fun i h=>by simp at h,fun i u h=>by simp at h⟩
theorem KeysG.nil (B:Nat) (W:World):KeysG B W (.slice none 0 0) []:=⟨by simpa using World.ownsRow_nil W B 9 1,fun i s h=>by simp at h⟩
theorem KidsG.kept (h:KidsG B k W v vs) (hs:SameOn (fun c=>B≤c) W W'):KidsG B k W' v vs:=by
 obtain ⟨X,h1,h2,h3⟩:=h
 exact ⟨X,own_on h1 (fun g _ hg hl=>hs.2 g hg hl),h2,fun i u hi=>(h3 i u hi).kept (fun _ _ h=>h) ⟨hs.1,fun c hc hl=>hs.2 c hc.1 hl⟩⟩
theorem KeysG.kept (h:KeysG B W v ks) (hs:SameOn (fun c=>B≤c) W W'):KeysG B W' v ks:=⟨own_on h.1 (fun g _ hg hl=>hs.2 g hg hl),h.2⟩
theorem KidsG.blk (h:KidsG B k W v vs) {g:Nat} (hg:v.ownBlock=some g):B≤g∧g<W.heap.size:=by
 obtain ⟨X,h1,-⟩:=h
 exact h1.lt g hg
theorem KeysG.blk (h:KeysG B W v ks) {g:Nat} (hg:v.ownBlock=some g):B≤g∧g<W.heap.size:=h.1.lt g hg
theorem own_shape {e:TypeId} {z n:Nat} {xs:List Value} (h:W.ownsRow B e z v n xs):∃ so cap,v = .slice so n cap:=by
 rcases h.2 with ⟨rfl,rfl⟩ | ⟨g,cap,cur,rfl,-⟩
 ·exact ⟨_,_,rfl⟩
 ·exact ⟨_,_,rfl⟩
theorem KidsG.shape (h:KidsG B k W v vs):∃ so cap,v = .slice so vs.length cap:=by
 obtain ⟨X,h1,-⟩:=h
 exact own_shape h1
theorem KeysG.shape (h:KeysG B W v ks):∃ so cap,v = .slice so ks.length cap:=own_shape h.1
theorem KidsG.row {vo:Option Addr} {n vc:Nat} (h:KidsG B k W (.slice vo n vc) vs):∃ X:Nat→Array Value,n=vs.length∧RowOn (fun c=>B≤c) W vo vs.length X∧∀ (i:Nat) (u:Vt),vs[i]? = some u→ValOn (fun c=>B≤c) W u (.agg (X i)):=by
 obtain ⟨X,h1,h2,h3⟩:=h
 obtain ⟨so,cap,e⟩:=own_shape h1
 cases e
 refine ⟨X,rfl,fun i hi=>⟨h2 i hi,?_⟩,fun i u hi=>(h3 i u hi).mono (fun _ _ h=>h.1)⟩
 rcases h1.2 with ⟨e,h0⟩ | ⟨g,cap,cur,e,hb,hg,-⟩
 ·omega
 ·cases e
  refine ⟨g,0,rfl,hb,(h1.lt g rfl).2,fun j hj=>?_⟩
  rw [show 0+i*6+j=i*6+j by omega,h1.cellAt (i*6+j) (by omega),flatC_get h2 hi hj]
theorem KeysG.row {vo:Option Addr} {n vc:Nat} (h:KeysG B W (.slice vo n vc) ks):n=ks.length∧KeysOn (fun c=>B≤c) W vo ks:=by
 obtain ⟨h1,h2⟩:=h
 obtain ⟨so,cap,e⟩:=own_shape h1
 cases e
 refine ⟨rfl,fun i s hi=>⟨h2 i s hi,?_⟩⟩
 have hl:=(List.getElem?_eq_some_iff.1 hi).1
 rcases h1.2 with ⟨e,h0⟩ | ⟨g,cap,cur,e,hb,hg,-⟩
 ·omega
 ·cases e
  refine ⟨g,0,rfl,hb,(h1.lt g rfl).2,?_⟩
  rw [show 0+i=i by omega,h1.cellAt i (by omega)]
  simp [hi]
theorem grown_weaken {row:Option Nat} (h:W.grownBy W' none):W.grownBy W' row:=⟨h.os,h.tape,h.output,h.size,fun c hc _=>h.block c hc (by simp)⟩
theorem KidsG.app {u:Vt} {C:Array Value} {ty:TypeId} (h:KidsG B k W v vs) (hu:ValOn (fun c=>B≤c∧v.ownBlock≠some c∧k≠some c) W u (.agg C)) (ad:Addr) (c:Nat) (hC:∀ (j:Nat) (y:Value),C[j]? = some y→W.cell? (ad.add j)=some y) (hn:vs.length<1099511627776) (hB:B≤W.heap.size) :
  ∃ v' W',(Builtin.append_ #[57,57] ty #[v,.slice (some ad) 1 c]).run Tryz.prog W = .ok v' W'∧KidsG B k W' v' (vs++[u])∧W.grownBy W' v.ownBlock∧(v'.ownBlock=v.ownBlock∨∃ g,v'.ownBlock=some g∧W.heap.size≤g):=by
 obtain ⟨X,h1,h2,h3⟩:=h
 obtain ⟨ko,kc,vo,vc,e⟩:=hu.six
 have hsz:C.size=6:=by cases e;rfl
 have ho:∀ y ∈ C.toList,y.oneCell'=true:=by
  cases e
  intro y hy
  simp at hy
  rcases hy with rfl | rfl | rfl | rfl | rfl | rfl <;> rfl
 obtain ⟨i0,hi,hz0,hz1,hz2⟩:=info_partsV infoVT
 obtain ⟨v',W',hr,r1,r2⟩:=appendV (P:=Tryz.prog) (ty:=ty) Tryz.underlying57 hi hz0 hz1 hz2 rfl (by decide) h1 ad 1 c C.toList (by simp [hsz]) (fun j y hj=>hC j y (by simpa using hj)) ho (by unfold maxLen;omega) (by omega) hB
 have hg:W.grownBy W' v.ownBlock:=by
  rcases r2 with ⟨g,cap,rfl,rfl,hg⟩ | ⟨-,hg⟩
  ·exact hg
  ·exact grown_weaken hg
 have hb:v'.ownBlock=v.ownBlock∨∃ g,v'.ownBlock=some g∧W.heap.size≤g:=by
  rcases r2 with ⟨g,cap,rfl,rfl,-⟩ | ⟨hf,-⟩
  ·exact .inl rfl
  ·rcases r1.2 with ⟨-,h0⟩ | ⟨g,cap,cur,rfl,-⟩
   ·omega
   ·exact .inr ⟨g,rfl,hf g rfl⟩
 have hS:∀ b,b<W.heap.size→(B≤b∧v.ownBlock≠some b∧k≠some b)→(B≤b∧v'.ownBlock≠some b∧k≠some b):=fun b hl hc=>by
  refine ⟨hc.1,?_,hc.2.2⟩
  rcases hb with e | ⟨g,e,hgl⟩
  ·rw [e];exact hc.2.1
  ·rw [e];intro hx;injection hx with hx;omega
 have hO:SameOn (fun c=>B≤c∧v.ownBlock≠some c∧k≠some c) W W':=⟨hg.size,fun b hc hl=>hg.block b hl (fun e=>hc.2.1 e.symm)⟩
 refine ⟨v',W',hr,⟨fun i=>if i=vs.length then C else X i,?_,?_,?_⟩,hg,hb⟩
 ·have e1:flatC (fun i=>if i=vs.length then C else X i) (vs++[u]).length=flatC X vs.length++C.toList:=by
   rw [List.length_append,List.length_singleton,flatC]
   simp only [if_true]
   rw [flatC_congr (Y:=X) (fun i hi=>if_neg (by omega))]
  rw [e1,List.length_append,List.length_singleton]
  exact r1
 ·intro i hi
  rw [List.length_append,List.length_singleton] at hi
  by_cases e:i=vs.length
  ·simp only [if_pos e];exact hsz
  ·simp only [if_neg e];exact h2 i (by omega)
 ·intro i y hy
  by_cases e:i=vs.length
  ·subst e
   rw [List.getElem?_append_right (Nat.le_refl _)] at hy
   simp at hy
   subst hy
   simp only [if_true]
   exact hu.kept hS hO
  ·have hl:=(List.getElem?_eq_some_iff.1 hy).1
   rw [List.length_append,List.length_singleton] at hl
   rw [List.getElem?_append_left (by omega)] at hy
   simp only [if_neg e]
   exact (h3 i y hy).kept hS hO
theorem KeysG.app {u:ByteArray} {ty:TypeId} (h:KeysG B W v ks) (hu:u.size≤capT) (ad:Addr) (c:Nat) (hC:W.cell? (ad.add 0)=some (.string u)) (hn:ks.length<1099511627776) (hB:B≤W.heap.size) :
  ∃ v' W',(Builtin.append_ #[56,56] ty #[v,.slice (some ad) 1 c]).run Tryz.prog W = .ok v' W'∧KeysG B W' v' (ks++[u])∧W.grownBy W' v.ownBlock∧(v'.ownBlock=v.ownBlock∨∃ g,v'.ownBlock=some g∧W.heap.size≤g):=by
 obtain ⟨h1,h2⟩:=h
 obtain ⟨i0,hi,hz0,hz1,hz2⟩:=info_partsV infoST
 obtain ⟨v',W',hr,r1,r2⟩:=appendV (P:=Tryz.prog) (ty:=ty) Tryz.underlying56 hi hz0 hz1 hz2 rfl (by decide) h1 ad 1 c [.string u] (by simp) (fun j y hj=>by
  match j,hj with
  | 0,hj=>simp at hj;subst hj;exact hC) (by simp;rfl) (by unfold maxLen;omega) (by omega) hB
 refine ⟨v',W',hr,⟨?_,?_⟩,?_,?_⟩
 ·rw [List.length_append,List.length_singleton,List.map_append,List.map_cons,List.map_nil]
  exact r1
 ·intro i s hs
  by_cases e:i=ks.length
  ·subst e
   rw [List.getElem?_append_right (Nat.le_refl _)] at hs
   simp at hs
   subst hs
   exact hu
  ·have hl:=(List.getElem?_eq_some_iff.1 hs).1
   rw [List.length_append,List.length_singleton] at hl
   rw [List.getElem?_append_left (by omega)] at hs
   exact h2 i s hs
 ·rcases r2 with ⟨g,cap,rfl,rfl,hg⟩ | ⟨-,hg⟩
  ·exact hg
  ·exact grown_weaken hg
 ·rcases r2 with ⟨g,cap,rfl,rfl,-⟩ | ⟨hf,-⟩
  ·exact .inl rfl
  ·rcases r1.2 with ⟨-,h0⟩ | ⟨g,cap,cur,rfl,-⟩
   ·omega
   ·exact .inr ⟨g,rfl,hf g rfl⟩
end
def ObjG (B:Nat) (w:World) (kv vv:Value) (ks:List ByteArray) (vs:List Vt):Prop:=KeysG B w kv ks∧KidsG B kv.ownBlock w vv vs∧∀ g,kv.ownBlock=some g→vv.ownBlock≠some g
section
variable {B:Nat} {W W':World} {kv vv kv' vv':Value} {vs vs':List Vt} {ks ks':List ByteArray}
theorem ObjG.nil (B:Nat) (W:World):ObjG B W (.slice none 0 0) (.slice none 0 0) [] []:=⟨KeysG.nil B W,KidsG.nil B _ W,fun g h=>by cases h⟩
theorem ObjG.kept (h:ObjG B W kv vv ks vs) (hs:SameOn (fun c=>B≤c) W W'):ObjG B W' kv vv ks vs:=⟨h.1.kept hs,h.2.1.kept hs,h.2.2⟩
theorem ObjG.key (h:ObjG B W kv vv ks vs) (hk:KeysG B W' kv' ks') (hg:W.grownBy W' kv.ownBlock) (ha:kv'.ownBlock=kv.ownBlock∨∃ g,kv'.ownBlock=some g∧W.heap.size≤g):ObjG B W' kv' vv ks' vs:=by
 obtain ⟨X,h1,h2,h3⟩:=h.2.1
 refine ⟨hk,⟨X,own_on h1 (fun g hv hb hl=>hg.block g hl (fun e=>h.2.2 g e.symm hv)),h2,fun i u hi=>(h3 i u hi).kept (fun b hl hc=>⟨hc.1,hc.2.1,?_⟩) ⟨hg.size,fun c hc hl=>hg.block c hl (fun e=>hc.2.2 e.symm)⟩⟩,?_⟩
 ·rcases ha with e | ⟨g,e,hgl⟩
  ·rw [e];exact hc.2.2
  ·rw [e];intro hx;injection hx with hx;omega
 ·intro g hg' hv
  rcases ha with e | ⟨g2,e,hgl⟩
  ·exact h.2.2 g (e ▸ hg') hv
  ·rw [hg'] at e;injection e with e;have:=(h1.lt g hv).2;omega
theorem ObjG.kid (h:ObjG B W kv vv ks vs) (hk:KidsG B kv.ownBlock W' vv' vs') (hg:W.grownBy W' vv.ownBlock) (ha:vv'.ownBlock=vv.ownBlock∨∃ g,vv'.ownBlock=some g∧W.heap.size≤g):ObjG B W' kv vv' ks vs':=by
 refine ⟨⟨own_on h.1.1 (fun g hv hb hl=>hg.block g hl (fun e=>h.2.2 g hv e.symm)),h.1.2⟩,hk,?_⟩
 intro g hk2 hv
 rcases ha with e | ⟨g2,e,hgl⟩
 ·exact h.2.2 g hk2 (e ▸ hv)
 ·rw [hv] at e;injection e with e;have:=(h.1.blk hk2).2;omega
end
def lenP (b k:Nat) (w:World):Nat:=match w.cell? ⟨b,k,none⟩ with
 | some (.slice _ n _)=>n
 | _=>0
end Go.Proofs.YtongedjlmohogaaGreatDoor

namespace Go.Proofs.YtongedjlmohogaaGreatDoor
open Go.RowKit Go.Shelf
theorem bytsV_lt (s:ByteArray):∀ x ∈ byts s,x<256:=by
  intro x hx
  obtain ⟨y,-,rfl⟩:=List.mem_map.1 hx
  exact UInt8.toNat_lt y
theorem cellV_lt {w:World} {a:Addr} {v:Value} (h:w.cell? a=some v):a.block<w.heap.size:=World.block_lt_of_cell? w a h
theorem unescF_len:∀ (n:Nat) (l o:List Nat),(∀ x ∈ l,x<256)→unescF n l=some o→o.length≤l.length:=by
  intro n
  induction n with
  | zero =>
    intro l o h e
    cases l with
    | nil=>simp [unescF] at e;subst e;simp
    | cons x r=>simp [unescF] at e
  | succ n ih =>
    intro l o h e
    cases l with
    | nil=>simp [unescF] at e;subst e;simp
    | cons x r =>
      simp only [unescF] at e
      cases hs:stepL (x :: r) with
      | none=>rw [hs] at e;simp at e
      | some p =>
        obtain ⟨k,o1⟩:=p
        rw [hs] at e
        simp only [Option.map_eq_some_iff] at e
        obtain ⟨o2,e1,rfl⟩:=e
        have h1:=stepL_some (by simp) h hs
        have h2:=ih _ _ (fun y hy=>h y (List.mem_of_mem_drop hy)) e1
        rw [List.length_drop] at h2
        rw [List.length_append]
        omega
theorem unS_size (s:ByteArray):(unS s).1.size≤s.size:=by
  unfold unS
  split
  · exact Nat.zero_le _
  · cases e:unescL (byts s) with
    | none=>exact Nat.zero_le _
    | some o =>
      show (mkS o).size≤_
      rw [mkS_size]
      have:=unescF_len _ _ _ (bytsV_lt s) e
      rwa [byts_length] at this
theorem Txt.len {s:ByteArray} {i j:Nat} {T:ByteArray} (h:Txt s i j T):T.size≤s.size:=by
  obtain ⟨-,e,h2,-,rfl⟩:=h
  refine Nat.le_trans (unS_size _) ?_
  rw [ByteArray.size_extract]
  omega
set_option maxRecDepth 10000 in
set_option maxHeartbeats 4000000 in
theorem textP_calls (b g : Nat) (s : ByteArray) (hs : s.size ≤ 8388608) (i j : Nat) (X : ByteArray) (hX : Hid (Txt s i j X)) (w : World) (hP : Hid (PaI b g s i w)) :
    Calls Tryz.prog 141 #[.pointer (some ⟨b,0,none⟩)] w fun e w'=>ParP b g s j (.mk 4 false ⟨#[]⟩ X [] []) w e w':=by
  have hqu:=hid (fun u h=>quoted_calls b g s hs i j X hX u h)
  have hXs:X.size≤capT:=by have:=hX.out.len;unfold capT;omega
  have hlb:=hP.out.at_.lt
  have hlg:=hP.out.tk.lt
  have A0:=hid (At.new w #[.int .i64 0,.bool false,.string ⟨#[]⟩,.string ⟨#[]⟩,.slice none 0 0,.slice none 0 0] 59)
  have q0:Below w.heap.size w (w.alloc (.cells #[.int .i64 0,.bool false,.string ⟨#[]⟩,.string ⟨#[]⟩,.slice none 0 0,.slice none 0 0] 59)):=(Below.refl _ w).alloc (Nat.le_refl _) _
  have P0:=hid (hP.out.kept q0)
  have F0:=hid (PFr.of_below (b:=b) q0)
  have hsz:=hid (show (w.alloc (.cells #[.int .i64 0,.bool false,.string ⟨#[]⟩,.string ⟨#[]⟩,.slice none 0 0,.slice none 0 0] 59)).heap.size=w.heap.size+1 from World.size_alloc _ _)
  obtain ⟨p,hp⟩:∃ p,Hid (w.heap.size=p):=⟨_,rfl⟩
  have hpb:Hid (b≠p):=by show b≠p;have:=hp.out;omega
  have hpg:Hid (g≠p):=by show g≠p;have:=hp.out;omega
  rw [hp.out] at A0 hsz
  clear q0 hlb hlg
  go_enter Tryz.func141,Tryz.ntmps141
  go_upto_region 1 with fail
  rw [hp.out]
  generalize w.alloc (.cells #[.int .i64 0,.bool false,.string ⟨#[]⟩,.string ⟨#[]⟩,.slice none 0 0,.slice none 0 0] 59)=W1 at A0 P0 F0 hsz ⊢
  go_wp2_with fail
  refine Calls.mono (hqu.out W1 P0) ?_
  rintro e W2 ⟨rfl,hP2,hF2⟩
  have A2:=hid (hF2.at_ A0.out (Ne.symm hpb.out))
  have P2:=hid hP2
  have F2:=hid (F0.out.trans hF2)
  clear hqu hP2 hF2 A0 P0 F0
  have d0:=A2.out.cell 0
  have d1:=A2.out.cell 1
  have d2:=A2.out.cell 2
  have d3:=A2.out.cell 3
  have d4:=A2.out.cell 4
  have d5:=A2.out.cell 5
  simp only [List.getElem?_toArray,List.getElem?_cons_zero,List.getElem?_cons_succ] at d0 d1 d2 d3 d4 d5
  have f0:=A2.out.frozen 0
  have f1:=A2.out.frozen 1
  have f2:=A2.out.frozen 2
  have f3:=A2.out.frozen 3
  have f4:=A2.out.frozen 4
  have f5:=A2.out.frozen 5
  go_wp2
  refine ret_val1 (p:=2) rfl rfl (A2.out.six) rfl ?_
  exact ⟨_,rfl,leafOn _ _ _ _ _ _ (by decide) (by first | decide | assumption) (by first | decide | assumption),P2.out.same same_six hpb.out hpg.out,F2.out.six (Nat.le_of_eq hp.out) _ _ _ _ _ _⟩
set_option maxRecDepth 10000 in
set_option maxHeartbeats 4000000 in
theorem numberP_calls (b g : Nat) (s : ByteArray) (hs : s.size ≤ 8388608) (i en : Nat) (hi : i < s.size) (hj : Hid ((readS s i).2.1 = en)) (hie : i < en) (hes : en ≤ s.size) (w : World) (hP : Hid (PaI b g s i w)) :
    Calls Tryz.prog 140 #[.pointer (some ⟨b,0,none⟩)] w fun e w'=>ParP b g s en (.mk 3 false (s.extract i en) ⟨#[]⟩ [] []) w e w':=by
  have hrd:=hid (fun u=>readD_calls s i (by omega) (Nat.le_of_lt hi) u)
  obtain ⟨⟨D,en',er⟩,hD⟩:∃ x,readS s i=x:=⟨_,rfl⟩
  obtain rfl:en=en':=by have:=hj.out;rw [hD] at this;exact this.symm
  simp only [readV,hD] at hrd
  obtain ⟨DN,DD,DX⟩:=D
  dsimp only [decV] at hrd
  generalize (⟨DD.toArray⟩:ByteArray)=TD at hrd
  have hel:(en:Int)≤(s.size:Int):=by omega
  have hii:(i:Int)≤(en:Int):=by omega
  have hsi:(s.size:Int)≤8388608:=by omega
  have hcl:=hid (fun u=>cloneT_calls (s.extract i en) (by rw [ByteArray.size_extract];omega) u)
  have hXs:(s.extract i en).size≤capT:=by rw [ByteArray.size_extract];unfold capT;omega
  clear hD hj
  have hlb:=hP.out.at_.lt
  have hlg:=hP.out.tk.lt
  have A0:=hid (At.new w #[.int .i64 0,.bool false,.string ⟨#[]⟩,.string ⟨#[]⟩,.slice none 0 0,.slice none 0 0] 59)
  have q0:Below w.heap.size w (w.alloc (.cells #[.int .i64 0,.bool false,.string ⟨#[]⟩,.string ⟨#[]⟩,.slice none 0 0,.slice none 0 0] 59)):=(Below.refl _ w).alloc (Nat.le_refl _) _
  have P0:=hid (hP.out.kept q0)
  have F0:=hid (PFr.of_below (b:=b) q0)
  have hsz:=hid (show (w.alloc (.cells #[.int .i64 0,.bool false,.string ⟨#[]⟩,.string ⟨#[]⟩,.slice none 0 0,.slice none 0 0] 59)).heap.size=w.heap.size+1 from World.size_alloc _ _)
  obtain ⟨p,hp⟩:∃ p,Hid (w.heap.size=p):=⟨_,rfl⟩
  have hpb:Hid (b≠p):=by show b≠p;have:=hp.out;omega
  have hpg:Hid (g≠p):=by show g≠p;have:=hp.out;omega
  rw [hp.out] at A0 hsz
  clear q0 hlb hlg
  go_enter Tryz.func140,Tryz.ntmps140
  go_upto_region 1 with fail
  rw [hp.out]
  generalize w.alloc (.cells #[.int .i64 0,.bool false,.string ⟨#[]⟩,.string ⟨#[]⟩,.slice none 0 0,.slice none 0 0] 59)=W1 at A0 P0 F0 hsz ⊢
  have hcell:Hid (∀ {u:World},Below W1.heap.size W1 u→u.cell? ⟨b,0,none⟩=some (.string s)∧u.cell? ⟨b,1,none⟩=some (.int .i64 (i:Int))):=fun h=>⟨(P0.out.kept h).at_.cell 0,(P0.out.kept h).at_.cell 1⟩
  have q0:=hid (show Below W1.heap.size W1 W1.drew from (Below.refl _ _).drew)
  have hx0:=hcell.out q0.out
  go_wp2
  refine wp_region_held_drew (S:=fun w'=>w'.cell? ⟨b,0,none⟩=some (.string s)∧w'.cell? ⟨b,1,none⟩=some (.int .i64 (i:Int))) (by kernel_rfl) hx0 (fun hHeld=>?_)
  clear hHeld
  obtain ⟨v0,ev0⟩:∃ v,W1.drew=v:=⟨_,rfl⟩
  rw [ev0] at q0 hx0 ⊢
  clear ev0
  (refine' wpAnyH_take (i:=0) rfl (by kernel_rfl) (by kernel_rfl) (by kernel_rfl) (fun _ _ _ h=>h) (Or.inl ⟨by rfl,?_⟩) (by assumption) ?_;rotate_left;(· (intro wq hq;(try dsimp only at hq);go_simp;first | done | with_reducible rfl));simp only [psA])
  (refine' wpAnyH_take (i:=1) rfl (by kernel_rfl) (by kernel_rfl) (by kernel_rfl) (fun _ _ _ h=>h) (Or.inl ⟨by rfl,?_⟩) (by assumption) ?_;rotate_left;(· (intro wq hq;(try dsimp only at hq);go_simp;first | done | with_reducible rfl));simp only [psA])
  (refine' wpAnyH_take (i:=2) rfl (by kernel_rfl) (by kernel_rfl) (by kernel_rfl) (fun _ _ _ h=>h) (Or.inl ⟨by rfl,?_⟩) (by assumption) ?_;rotate_left;(· (intro wq hq;(try dsimp only at hq);go_simp;first | done | with_reducible rfl));simp only [psA])
  (refine' wpAnyH_take (i:=3) rfl (by kernel_rfl) (by kernel_rfl) (by kernel_rfl) (fun _ _ _ h=>h) (Or.inl ⟨by rfl,?_⟩) (by assumption) ?_;rotate_left;(· (intro wq hq;(try dsimp only at hq);go_simp;first | done | with_reducible rfl));simp only [psA])
  (refine' wpAnyH_take (i:=4) rfl (by kernel_rfl) (by kernel_rfl) (by kernel_rfl) (fun _ _ _ h=>h) (Or.inl ⟨by rfl,?_⟩) (by assumption) ?_;rotate_left;(· (intro wq hq;(try dsimp only at hq);go_simp;first | done | with_reducible rfl));simp only [psA])
  (refine' wpAnyH_take (i:=5) rfl (by kernel_rfl) (by kernel_rfl) (by kernel_rfl) (fun _ _ _ h=>h) (Or.inl ⟨by rfl,?_⟩) (by assumption) ?_;rotate_left;(· (intro wq hq;(try dsimp only at hq);go_simp;first | done | with_reducible rfl));simp only [psA])
  (refine' wpAnyH_take (i:=6) rfl (by kernel_rfl) (by kernel_rfl) (by kernel_rfl) (fun _ _ _ h=>h) (Or.inl ⟨by rfl,?_⟩) (by assumption) ?_;rotate_left;(· (intro wq hq;(try dsimp only at hq);go_simp;first | done | with_reducible rfl));simp only [psA])
  (refine' wpAnyH_take (i:=7) rfl (by kernel_rfl) (by kernel_rfl) (by kernel_rfl) (fun _ _ _ h=>h) (Or.inl ⟨by rfl,?_⟩) (by assumption) ?_;rotate_left;(· (intro wq hq;(try dsimp only at hq);go_simp;first | done | with_reducible rfl));simp only [psA])
  refine wpAnyH_ready (rs:=[8,13]) (by kernel_rfl) (by simp) ?_
  refine AllReadyH.cons rfl (fun K hK=>?_) ?_
  · rw [if_pos (by rfl)]
    go_simp
    refine Calls.mono (hrd.out _) ?_
    rintro e v1 ⟨rfl,q1⟩
    have b1:=hid (q0.out.trans (q1.mono q0.out.size))
    refine hK.out _ _ (hcell.out b1.out) (fun _=>?_)
    clear hK K hrd
    (refine' wpAnyH_take (i:=9) rfl (by kernel_rfl) (by kernel_rfl) (by kernel_rfl) (fun _ _ _ h=>h) (Or.inl ⟨by rfl,?_⟩) (by assumption) ?_;rotate_left;(· (intro wq hq;(try dsimp only at hq);go_simp;first | done | with_reducible rfl));simp only [psA])
    (refine' wpAnyH_take (i:=10) rfl (by kernel_rfl) (by kernel_rfl) (by kernel_rfl) (fun _ _ _ h=>h) (Or.inl ⟨by rfl,?_⟩) (by assumption) ?_;rotate_left;(· (intro wq hq;(try dsimp only at hq);go_simp;first | done | with_reducible rfl));simp only [psA])
    (refine' wpAnyH_take (i:=11) rfl (by kernel_rfl) (by kernel_rfl) (by kernel_rfl) (fun _ _ _ h=>h) (Or.inl ⟨by rfl,?_⟩) (by assumption) ?_;rotate_left;(· (intro wq hq;(try dsimp only at hq);go_simp;first | done | with_reducible rfl));simp only [psA])
    (refine' wpAnyH_take (i:=12) rfl (by kernel_rfl) (by kernel_rfl) (by kernel_rfl) (fun _ _ _ h=>h) (Or.inl ⟨by rfl,?_⟩) (by assumption) ?_;rotate_left;(· (intro wq hq;(try dsimp only at hq);go_simp;first | done | with_reducible rfl));simp only [psA])
    refine wpAnyH_ready (rs:=[13]) (by kernel_rfl) (by simp) ?_
    refine AllReadyH.cons rfl (fun K hK=>?_) ?_
    · go_simp
      obtain ⟨v2,e2⟩:∃ v,World.alloc v1 (.cells #[.bool false,.string ⟨#[]⟩,.int .i64 0] 170)=v:=⟨_,rfl⟩
      have q2:Below v1.heap.size v1 v2:=by rw [← e2];exact (Below.refl _ _).alloc (Nat.le_refl _) _
      have hp0:=hid (show At v2 v1.heap.size #[.bool false,.string ⟨#[]⟩,.int .i64 0] 170 by rw [← e2];exact At.new v1 _ _)
      have hnb:=hid (show W1.heap.size≤v1.heap.size from b1.out.size)
      rw [e2]
      clear e2
      have b2:=hid (b1.out.trans (q2.mono b1.out.size))
      refine hK.out _ _ (hcell.out b2.out) (fun _=>?_)
      clear hK K b1 q2 q1
      have d0:v2.cell? ⟨v1.heap.size,0,none⟩=some (.bool false):=hp0.out.cell 0
      have d1:v2.cell? ⟨v1.heap.size,1,none⟩=some (.string ⟨#[]⟩):=hp0.out.cell 1
      have d2:v2.cell? ⟨v1.heap.size,2,none⟩=some (.int .i64 0):=hp0.out.cell 2
      have f0:=hp0.out.frozen 0
      have f1:=hp0.out.frozen 1
      have f2:=hp0.out.frozen 2
      have b3:=hid (show Below W1.heap.size W1 (((v2.setCell ⟨v1.heap.size,0,none⟩ (.bool DN)).setCell ⟨v1.heap.size,1,none⟩ (.string TD)).setCell ⟨v1.heap.size,2,none⟩ (.int .i64 DX)) from ((b2.out.setCell (p:=⟨v1.heap.size,0,none⟩) hnb.out _).setCell (p:=⟨v1.heap.size,1,none⟩) hnb.out _).setCell (p:=⟨v1.heap.size,2,none⟩) hnb.out _)
      have hy3:=hid (hcell.out b3.out)
      refine wpAnyH_ready (rs:=[14]) (by kernel_rfl) (by simp) ?_
      refine AllReadyH.cons rfl (fun K hK=>?_) ?_
      · go_simp
        refine hK.out _ _ hy3.out (fun _=>?_)
        clear hK K d0 d1 d2 f0 f1 f2
        (refine' wpAnyH_take (i:=15) rfl (by kernel_rfl) (by kernel_rfl) (by kernel_rfl) (fun _ _ _ h=>h) (Or.inl ⟨by rfl,?_⟩) (by assumption) ?_;rotate_left;(· (intro wq hq;(try dsimp only at hq);go_simp;first | done | with_reducible rfl));simp only [psA])
        (refine' wpAnyH_take (i:=16) rfl (by kernel_rfl) (by kernel_rfl) (by kernel_rfl) (fun _ _ _ h=>h) (Or.inl ⟨by rfl,?_⟩) (by assumption) ?_;rotate_left;(· (intro wq hq;(try dsimp only at hq);go_simp;first | done | with_reducible rfl));simp only [psA])
        refine wpAnyH_done (by kernel_rfl) ?_ _
        have A1:=hid (A0.out.keptAll b3.out)
        have P1:=hid (P0.out.kept b3.out)
        have F1:=hid (F0.out.trans (PFr.of_below b3.out))
        clear hy3 b3 hp0 hnb b2
        generalize ((v2.setCell ⟨v1.heap.size,0,none⟩ (.bool DN)).setCell ⟨v1.heap.size,1,none⟩ (.string TD)).setCell ⟨v1.heap.size,2,none⟩ (.int .i64 DX)=W3 at *
        have c0:W3.cell? ⟨b,0,none⟩=some (.string s):=P1.out.at_.cell 0
        have c1:W3.cell? ⟨b,1,none⟩=some (.int .i64 (i:Int)):=P1.out.at_.cell 1
        go_wp2
        refine wp_region_quiet (C:=(fun w'=>w'.cell? ⟨b,0,none⟩=some (.string s)∧w'.cell? ⟨b,1,none⟩=some (.int .i64 (i:Int))∧Below W3.heap.size W3 w')) (by kernel_rfl) (by kernel_rfl) (⟨c0,c1,(Below.refl _ _).drew⟩) ?_
        dsimp only
        repeat (first
          | (refine wpQuiet_skip (by rfl) ?_;simp only [psA])
          | (refine' wpQuiet_take (by rfl) ?_ ?_
             rotate_left
             · (intro wq hq;(try dsimp only at hq);go_simp
                first
                  | done
                  | with_reducible rfl
                  | (go_at_call 61;have hzz:=hcl.out wq;with_reducible refine hzz.mono ?_;clear hzz;rintro e wz ⟨rfl,hb⟩;exact ⟨rfl,(hb.cell (p:=⟨b,0,none⟩) (cellV_lt hq.1)).trans hq.1,(hb.cell (p:=⟨b,1,none⟩) (cellV_lt hq.2.1)).trans hq.2.1,hq.2.2.trans (hb.mono hq.2.2.size)⟩)
               )
             simp only [psA]))
        refine wpQuiet_nil ?_
        intro W4 hw4
        have A3:=hid (A1.out.keptAll hw4.2.2)
        have P3:=hid (P1.out.kept hw4.2.2)
        have F3:=hid (F1.out.trans (PFr.of_below hw4.2.2))
        clear hw4 c0 c1 A1 P1 F1 hcl
        have c1:W4.cell? ⟨b,1,none⟩=some (.int .i64 (i:Int)):=P3.out.at_.cell 1
        have g1:=P3.out.at_.frozen 1
        have A2:=hid (A3.out.other (p:=⟨b,1,none⟩) (Ne.symm hpb.out) (.int .i64 (en:Int)))
        have P2:=hid (P3.out.go (en:Int) en rfl)
        have F2:=hid (F3.out.set 1 (.int .i64 (en:Int)))
        go_upto_region 4 with fail
        generalize W4.setCell ⟨b,1,none⟩ (.int .i64 (en:Int))=W5 at A2 P2 F2 ⊢
        clear c1 g1 A3 P3 F3
        have d0:=A2.out.cell 0
        have d1:=A2.out.cell 1
        have d2:=A2.out.cell 2
        have d3:=A2.out.cell 3
        have d4:=A2.out.cell 4
        have d5:=A2.out.cell 5
        simp only [List.getElem?_toArray,List.getElem?_cons_zero,List.getElem?_cons_succ] at d0 d1 d2 d3 d4 d5
        have f0:=A2.out.frozen 0
        have f1:=A2.out.frozen 1
        have f2:=A2.out.frozen 2
        have f3:=A2.out.frozen 3
        have f4:=A2.out.frozen 4
        have f5:=A2.out.frozen 5
        go_wp2
        refine ret_val1 (p:=2) rfl rfl (A2.out.six) rfl ?_
        exact ⟨_,rfl,leafOn _ _ _ _ _ _ (by decide) (by first | decide | assumption) (by first | decide | assumption),P2.out.same same_six hpb.out hpg.out,F2.out.six (Nat.le_of_eq hp.out) _ _ _ _ _ _⟩
      exact AllReadyH.nil
    exact AllReadyH.nil
  refine AllReadyH.cons rfl (fun K hK=>?_) ?_
  · go_simp
    obtain ⟨v1,e1⟩:∃ v,World.alloc v0 (.cells #[.bool false,.string ⟨#[]⟩,.int .i64 0] 170)=v:=⟨_,rfl⟩
    have q1:Below v0.heap.size v0 v1:=by rw [← e1];exact (Below.refl _ _).alloc (Nat.le_refl _) _
    have hpA:=hid (show At v1 v0.heap.size #[.bool false,.string ⟨#[]⟩,.int .i64 0] 170 by rw [← e1];exact At.new v0 _ _)
    have hnb:=hid (show W1.heap.size≤v0.heap.size from q0.out.size)
    rw [e1]
    clear e1
    have b1:=hid (q0.out.trans (q1.mono q0.out.size))
    refine hK.out _ _ (hcell.out b1.out) (fun _=>?_)
    clear hK K q1
    refine wpAnyH_ready (rs:=[8]) (by kernel_rfl) (by simp) ?_
    refine AllReadyH.cons rfl (fun K hK=>?_) ?_
    · rw [if_pos (by rfl)]
      go_simp
      refine Calls.mono (hrd.out _) ?_
      rintro e v2 ⟨rfl,q2⟩
      have hp0:=hid (hpA.out.keptAll q2)
      have b2:=hid (b1.out.trans (q2.mono b1.out.size))
      refine hK.out _ _ (hcell.out b2.out) (fun _=>?_)
      clear hK K hrd b1 q2 hpA
      (refine' wpAnyH_take (i:=9) rfl (by kernel_rfl) (by kernel_rfl) (by kernel_rfl) (fun _ _ _ h=>h) (Or.inl ⟨by rfl,?_⟩) (by assumption) ?_;rotate_left;(· (intro wq hq;(try dsimp only at hq);go_simp;first | done | with_reducible rfl));simp only [psA])
      (refine' wpAnyH_take (i:=10) rfl (by kernel_rfl) (by kernel_rfl) (by kernel_rfl) (fun _ _ _ h=>h) (Or.inl ⟨by rfl,?_⟩) (by assumption) ?_;rotate_left;(· (intro wq hq;(try dsimp only at hq);go_simp;first | done | with_reducible rfl));simp only [psA])
      (refine' wpAnyH_take (i:=11) rfl (by kernel_rfl) (by kernel_rfl) (by kernel_rfl) (fun _ _ _ h=>h) (Or.inl ⟨by rfl,?_⟩) (by assumption) ?_;rotate_left;(· (intro wq hq;(try dsimp only at hq);go_simp;first | done | with_reducible rfl));simp only [psA])
      (refine' wpAnyH_take (i:=12) rfl (by kernel_rfl) (by kernel_rfl) (by kernel_rfl) (fun _ _ _ h=>h) (Or.inl ⟨by rfl,?_⟩) (by assumption) ?_;rotate_left;(· (intro wq hq;(try dsimp only at hq);go_simp;first | done | with_reducible rfl));simp only [psA])
      have d0:v2.cell? ⟨v0.heap.size,0,none⟩=some (.bool false):=hp0.out.cell 0
      have d1:v2.cell? ⟨v0.heap.size,1,none⟩=some (.string ⟨#[]⟩):=hp0.out.cell 1
      have d2:v2.cell? ⟨v0.heap.size,2,none⟩=some (.int .i64 0):=hp0.out.cell 2
      have f0:=hp0.out.frozen 0
      have f1:=hp0.out.frozen 1
      have f2:=hp0.out.frozen 2
      have b3:=hid (show Below W1.heap.size W1 (((v2.setCell ⟨v0.heap.size,0,none⟩ (.bool DN)).setCell ⟨v0.heap.size,1,none⟩ (.string TD)).setCell ⟨v0.heap.size,2,none⟩ (.int .i64 DX)) from ((b2.out.setCell (p:=⟨v0.heap.size,0,none⟩) hnb.out _).setCell (p:=⟨v0.heap.size,1,none⟩) hnb.out _).setCell (p:=⟨v0.heap.size,2,none⟩) hnb.out _)
      have hy3:=hid (hcell.out b3.out)
      refine wpAnyH_ready (rs:=[14]) (by kernel_rfl) (by simp) ?_
      refine AllReadyH.cons rfl (fun K hK=>?_) ?_
      · go_simp
        refine hK.out _ _ hy3.out (fun _=>?_)
        clear hK K d0 d1 d2 f0 f1 f2
        (refine' wpAnyH_take (i:=15) rfl (by kernel_rfl) (by kernel_rfl) (by kernel_rfl) (fun _ _ _ h=>h) (Or.inl ⟨by rfl,?_⟩) (by assumption) ?_;rotate_left;(· (intro wq hq;(try dsimp only at hq);go_simp;first | done | with_reducible rfl));simp only [psA])
        (refine' wpAnyH_take (i:=16) rfl (by kernel_rfl) (by kernel_rfl) (by kernel_rfl) (fun _ _ _ h=>h) (Or.inl ⟨by rfl,?_⟩) (by assumption) ?_;rotate_left;(· (intro wq hq;(try dsimp only at hq);go_simp;first | done | with_reducible rfl));simp only [psA])
        refine wpAnyH_done (by kernel_rfl) ?_ _
        have A1:=hid (A0.out.keptAll b3.out)
        have P1:=hid (P0.out.kept b3.out)
        have F1:=hid (F0.out.trans (PFr.of_below b3.out))
        clear hy3 b3 hp0 hnb b2
        generalize ((v2.setCell ⟨v0.heap.size,0,none⟩ (.bool DN)).setCell ⟨v0.heap.size,1,none⟩ (.string TD)).setCell ⟨v0.heap.size,2,none⟩ (.int .i64 DX)=W3 at *
        have c0:W3.cell? ⟨b,0,none⟩=some (.string s):=P1.out.at_.cell 0
        have c1:W3.cell? ⟨b,1,none⟩=some (.int .i64 (i:Int)):=P1.out.at_.cell 1
        go_wp2
        refine wp_region_quiet (C:=(fun w'=>w'.cell? ⟨b,0,none⟩=some (.string s)∧w'.cell? ⟨b,1,none⟩=some (.int .i64 (i:Int))∧Below W3.heap.size W3 w')) (by kernel_rfl) (by kernel_rfl) (⟨c0,c1,(Below.refl _ _).drew⟩) ?_
        dsimp only
        repeat (first
          | (refine wpQuiet_skip (by rfl) ?_;simp only [psA])
          | (refine' wpQuiet_take (by rfl) ?_ ?_
             rotate_left
             · (intro wq hq;(try dsimp only at hq);go_simp
                first
                  | done
                  | with_reducible rfl
                  | (go_at_call 61;have hzz:=hcl.out wq;with_reducible refine hzz.mono ?_;clear hzz;rintro e wz ⟨rfl,hb⟩;exact ⟨rfl,(hb.cell (p:=⟨b,0,none⟩) (cellV_lt hq.1)).trans hq.1,(hb.cell (p:=⟨b,1,none⟩) (cellV_lt hq.2.1)).trans hq.2.1,hq.2.2.trans (hb.mono hq.2.2.size)⟩)
               )
             simp only [psA]))
        refine wpQuiet_nil ?_
        intro W4 hw4
        have A3:=hid (A1.out.keptAll hw4.2.2)
        have P3:=hid (P1.out.kept hw4.2.2)
        have F3:=hid (F1.out.trans (PFr.of_below hw4.2.2))
        clear hw4 c0 c1 A1 P1 F1 hcl
        have c1:W4.cell? ⟨b,1,none⟩=some (.int .i64 (i:Int)):=P3.out.at_.cell 1
        have g1:=P3.out.at_.frozen 1
        have A2:=hid (A3.out.other (p:=⟨b,1,none⟩) (Ne.symm hpb.out) (.int .i64 (en:Int)))
        have P2:=hid (P3.out.go (en:Int) en rfl)
        have F2:=hid (F3.out.set 1 (.int .i64 (en:Int)))
        go_upto_region 4 with fail
        generalize W4.setCell ⟨b,1,none⟩ (.int .i64 (en:Int))=W5 at A2 P2 F2 ⊢
        clear c1 g1 A3 P3 F3
        have d0:=A2.out.cell 0
        have d1:=A2.out.cell 1
        have d2:=A2.out.cell 2
        have d3:=A2.out.cell 3
        have d4:=A2.out.cell 4
        have d5:=A2.out.cell 5
        simp only [List.getElem?_toArray,List.getElem?_cons_zero,List.getElem?_cons_succ] at d0 d1 d2 d3 d4 d5
        have f0:=A2.out.frozen 0
        have f1:=A2.out.frozen 1
        have f2:=A2.out.frozen 2
        have f3:=A2.out.frozen 3
        have f4:=A2.out.frozen 4
        have f5:=A2.out.frozen 5
        go_wp2
        refine ret_val1 (p:=2) rfl rfl (A2.out.six) rfl ?_
        exact ⟨_,rfl,leafOn _ _ _ _ _ _ (by decide) (by first | decide | assumption) (by first | decide | assumption),P2.out.same same_six hpb.out hpg.out,F2.out.six (Nat.le_of_eq hp.out) _ _ _ _ _ _⟩
      exact AllReadyH.nil
    exact AllReadyH.nil
  exact AllReadyH.nil
set_option maxRecDepth 10000 in
set_option maxHeartbeats 4000000 in
theorem valueP_g (b g : Nat) (s : ByteArray) (hs : s.size ≤ 281474976710656) (i k j : Nat) (t : Vt) (hk : Hid (IsSkip s i k)) (hks : k < s.size) (n F : Nat) (hn : n < 7) (hc : Hid (kindC (byteAt s k) = (n : Int))) (htk : (takesC b)[n]? = some (.func (.func F) #[.pointer (some ⟨b, 0, none⟩)] #[])) (he : ∀ (args : Array Value) (u : World), (callFunc F args).run Tryz.prog u = .ok (.enter F args) u)
    (hcall:Hid (∀ u,Hid (PaI b g s k u)→Calls Tryz.prog F #[.pointer (some ⟨b,0,none⟩)] u fun e w'=>ParP b g s j t u e w')) (w:World) (hP:Hid (PaI b g s i w)) :
    Calls Tryz.prog 126 #[.pointer (some ⟨b,0,none⟩)] w fun e w'=>ParP b g s j t w e w':=by
  have hbl:=hid (fun u h=>blanksP_calls b g s hs i k hk hks u h)
  have hkd:=hid (fun u=>kind17_calls (byteAt s k) u)
  rw [hc.out] at hkd
  obtain ⟨y,hY⟩:∃ y,Hid (byteAt s k=y):=⟨_,rfl⟩
  have hy:=byteAt_eq s k hks
  rw [hY.out] at hy hkd
  have hki:(k:Int)<(s.size:Int):=by omega
  have hni:(n:Int)<7:=by omega
  have htk':=hid htk
  clear htk
  have hlb:=hP.out.at_.lt
  have hlg:=hP.out.tk.lt
  have A0:=hid (At.new w #[.int .i64 0,.bool false,.string ⟨#[]⟩,.string ⟨#[]⟩,.slice none 0 0,.slice none 0 0] 59)
  have q0:Below w.heap.size w (w.alloc (.cells #[.int .i64 0,.bool false,.string ⟨#[]⟩,.string ⟨#[]⟩,.slice none 0 0,.slice none 0 0] 59)):=(Below.refl _ w).alloc (Nat.le_refl _) _
  have P0:=hid (hP.out.kept q0)
  have F0:=hid (PFr.of_below (b:=b) q0)
  have hsz:=hid (show (w.alloc (.cells #[.int .i64 0,.bool false,.string ⟨#[]⟩,.string ⟨#[]⟩,.slice none 0 0,.slice none 0 0] 59)).heap.size=w.heap.size+1 from World.size_alloc _ _)
  obtain ⟨p,hp⟩:∃ p,Hid (w.heap.size=p):=⟨_,rfl⟩
  have hpb:Hid (b≠p):=by show b≠p;have:=hp.out;omega
  have hpg:Hid (g≠p):=by show g≠p;have:=hp.out;omega
  rw [hp.out] at A0 hsz
  clear q0 hlb hlg
  go_enter Tryz.func126,Tryz.ntmps126
  go_upto_region 1 with fail
  rw [hp.out]
  generalize w.alloc (.cells #[.int .i64 0,.bool false,.string ⟨#[]⟩,.string ⟨#[]⟩,.slice none 0 0,.slice none 0 0] 59)=W1 at A0 P0 F0 hsz ⊢
  go_wp2_with fail
  refine Calls.mono (hbl.out W1 P0) ?_
  rintro e W2 ⟨rfl,hP2,hF2⟩
  have A1:=hid (hF2.at_ A0.out (Ne.symm hpb.out))
  have P1:=hid hP2
  have hF2':=hid hF2
  have F1:=hid (F0.out.trans hF2)
  have hsz2:Hid (p<W2.heap.size):=by have h1:=hF2.size;have h2:=hsz.out;show _<_;omega
  clear hbl hP2 hF2 hF2' A0 P0 F0 hsz hP
  go_upto_region 2 with fail
  have hx0:W2.drew.cell? ⟨b,0,none⟩=some (.string s)∧W2.drew.cell? ⟨b,2,none⟩=some (.slice (some ⟨g,0,none⟩) 7 7)∧W2.drew.cell? ⟨g,n,none⟩=some (.func (.func F) #[.pointer (some ⟨b,0,none⟩)] #[]):=⟨P1.out.at_.cell 0,P1.out.at_.cell 2,(P1.out.tk.cell n).trans htk'.out⟩
  have q0:=hid (show Below W2.heap.size W2 W2.drew from (Below.refl _ _).drew)
  have P2:=hid (P1.out.kept q0.out)
  have A2:=hid (A1.out.keptAll q0.out)
  have F2:=hid (F1.out.trans (PFr.of_below q0.out))
  have hsz3:Hid (p<W2.drew.heap.size):=hsz2.out
  refine wp_region_held_drew (S:=fun w'=>w'.cell? ⟨b,0,none⟩=some (.string s)∧w'.cell? ⟨b,2,none⟩=some (.slice (some ⟨g,0,none⟩) 7 7)∧w'.cell? ⟨g,n,none⟩=some (.func (.func F) #[.pointer (some ⟨b,0,none⟩)] #[])) (by kernel_rfl) hx0 (fun hHeld=>?_)
  clear hHeld q0 P1 A1 F1 hsz2
  generalize W2.drew=v0 at *
  (refine' wpAnyH_take (i:=0) rfl (by kernel_rfl) (by kernel_rfl) (by kernel_rfl) (fun _ _ _ h=>h) (Or.inl ⟨by rfl,?_⟩) (by assumption) ?_;rotate_left;(· (intro wq hq;(try dsimp only at hq);go_simp;first | done | with_reducible rfl));simp only [psA])
  (refine' wpAnyH_take (i:=1) rfl (by kernel_rfl) (by kernel_rfl) (by kernel_rfl) (fun _ _ _ h=>h) (Or.inl ⟨by rfl,?_⟩) (by assumption) ?_;rotate_left;(· (intro wq hq;(try dsimp only at hq);go_simp;first | done | with_reducible rfl));simp only [psA])
  (refine' wpAnyH_take (i:=2) rfl (by kernel_rfl) (by kernel_rfl) (by kernel_rfl) (fun _ _ _ h=>h) (Or.inl ⟨by rfl,?_⟩) (by assumption) ?_;rotate_left;(· (intro wq hq;(try dsimp only at hq);go_simp;first | done | with_reducible rfl));simp only [psA])
  (refine' wpAnyH_take (i:=3) rfl (by kernel_rfl) (by kernel_rfl) (by kernel_rfl) (fun _ _ _ h=>h) (Or.inl ⟨by rfl,?_⟩) (by assumption) ?_;rotate_left;(· (intro wq hq;(try dsimp only at hq);go_simp;first | done | with_reducible rfl));simp only [psA])
  (refine' wpAnyH_take (i:=4) rfl (by kernel_rfl) (by kernel_rfl) (by kernel_rfl) (fun _ _ _ h=>h) (Or.inl ⟨by rfl,?_⟩) (by assumption) ?_;rotate_left;(· (intro wq hq;(try dsimp only at hq);go_simp;first | done | with_reducible rfl));simp only [psA])
  (refine' wpAnyH_take (i:=5) rfl (by kernel_rfl) (by kernel_rfl) (by kernel_rfl) (fun _ _ _ h=>h) (Or.inl ⟨by rfl,?_⟩) (by assumption) ?_;rotate_left;(· (intro wq hq;(try dsimp only at hq);go_simp;first | done | with_reducible rfl));simp only [psA])
  (refine' wpAnyH_take (i:=6) rfl (by kernel_rfl) (by kernel_rfl) (by kernel_rfl) (fun _ _ _ h=>h) (Or.inl ⟨by rfl,?_⟩) (by assumption) ?_;rotate_left;(· (intro wq hq;(try dsimp only at hq);go_simp;first | done | with_reducible rfl));simp only [psA])
  (refine' wpAnyH_take (i:=7) rfl (by kernel_rfl) (by kernel_rfl) (by kernel_rfl) (fun _ _ _ h=>h) (Or.inl ⟨by rfl,?_⟩) (by assumption) ?_;rotate_left;(· (intro wq hq;(try dsimp only at hq);go_simp;first | done | with_reducible rfl));simp only [psA])
  (refine' wpAnyH_take (i:=8) rfl (by kernel_rfl) (by kernel_rfl) (by kernel_rfl) (fun _ _ _ h=>h) (Or.inl ⟨by rfl,?_⟩) (by assumption) ?_;rotate_left;(· (intro wq hq;(try dsimp only at hq);go_simp;first | done | with_reducible rfl));simp only [psA])
  (refine' wpAnyH_take (i:=9) rfl (by kernel_rfl) (by kernel_rfl) (by kernel_rfl) (fun _ _ _ h=>h) (Or.inl ⟨by rfl,?_⟩) (by assumption) ?_;rotate_left;(· (intro wq hq;(try dsimp only at hq);go_simp;first | done | with_reducible rfl));simp only [psA])
  (refine' wpAnyH_take (i:=10) rfl (by kernel_rfl) (by kernel_rfl) (by kernel_rfl) (fun _ _ _ h=>h) (Or.inl ⟨by rfl,?_⟩) (by assumption) ?_;rotate_left;(· (intro wq hq;(try dsimp only at hq);go_simp;first | done | with_reducible rfl));simp only [psA])
  refine wpAnyH_ready (rs:=[11]) (by kernel_rfl) (by simp) ?_
  refine AllReadyH.cons rfl (fun K hK=>?_) ?_
  · have c1:v0.cell? ⟨b,1,none⟩=some (.int .i64 (k:Int)):=P2.out.at_.cell 1
    go_simp
    refine hK.out _ _ hx0 (fun _=>?_)
    clear hK K c1
    (refine' wpAnyH_take (i:=12) rfl (by kernel_rfl) (by kernel_rfl) (by kernel_rfl) (fun _ _ _ h=>h) (Or.inl ⟨by rfl,?_⟩) (by assumption) ?_;rotate_left;(· (intro wq hq;(try dsimp only at hq);go_simp;first | done | with_reducible rfl));simp only [psA])
    refine wpAnyH_ready (rs:=[13]) (by kernel_rfl) (by simp) ?_
    refine AllReadyH.cons rfl (fun K hK=>?_) ?_
    · rw [if_pos (by rfl)]
      go_simp
      refine Calls.mono (hkd.out _) ?_
      rintro e v1 ⟨rfl,hv1⟩
      rw [hv1]
      refine hK.out _ _ hx0 (fun _=>?_)
      clear hK K hv1 hkd
      (refine' wpAnyH_take (i:=14) rfl (by kernel_rfl) (by kernel_rfl) (by kernel_rfl) (fun _ _ _ h=>h) (Or.inl ⟨by rfl,?_⟩) (by assumption) ?_;rotate_left;(· (intro wq hq;(try dsimp only at hq);go_simp;first | done | with_reducible rfl));simp only [psA])
      (refine' wpAnyH_take (i:=15) rfl (by kernel_rfl) (by kernel_rfl) (by kernel_rfl) (fun _ _ _ h=>h) (Or.inl ⟨by rfl,?_⟩) (by assumption) ?_;rotate_left;(· (intro wq hq;(try dsimp only at hq);go_simp;first | done | with_reducible rfl));simp only [psA])
      refine wpAnyH_ready (rs:=[16]) (by kernel_rfl) (by simp) ?_
      refine AllReadyH.cons rfl (fun K hK=>?_) ?_
      · rw [if_pos (by rfl)]
        go_simp
        refine Calls.mono (hcall.out v0 P2) ?_
        rintro e v2 ⟨x,rfl,hV,hP3,hF3⟩
        obtain ⟨ko,kc,vo,vc,rfl⟩:=hV.six
        have A3:=hid (hF3.at_ A2.out (Ne.symm hpb.out))
        have P3:=hid hP3
        have F3:=hid (F2.out.trans hF3)
        have V3:=hid hV
        have hp3:Hid (p<v2.heap.size):=by have:=hF3.size;have:=hsz3.out;show _<_;omega
        refine hK.out _ _ ⟨hP3.at_.cell 0,hP3.at_.cell 2,(hP3.tk.cell n).trans htk'.out⟩ (fun _=>?_)
        clear hK K hcall hV hP3 hF3 hx0 A2 P2 F2
        have d0:=A3.out.cell 0
        have d1:=A3.out.cell 1
        have d2:=A3.out.cell 2
        have d3:=A3.out.cell 3
        have d4:=A3.out.cell 4
        have d5:=A3.out.cell 5
        simp only [List.getElem?_toArray,List.getElem?_cons_zero,List.getElem?_cons_succ] at d0 d1 d2 d3 d4 d5
        have f0:=A3.out.frozen 0
        have f1:=A3.out.frozen 1
        have f2:=A3.out.frozen 2
        have f3:=A3.out.frozen 3
        have f4:=A3.out.frozen 4
        have f5:=A3.out.frozen 5
        refine wpAnyH_ready (rs:=[17]) (by kernel_rfl) (by simp) ?_
        refine AllReadyH.cons rfl (fun K hK=>?_) ?_
        · go_simp
          have P4:=hid (P3.out.same (same_six (y0:=.int .i64 t.kind) (y1:=.bool t.b) (y2:=.string t.raw) (y3:=.string t.text) (y4:=.slice ko t.keys.length kc) (y5:=.slice vo t.kids.length vc)) hpb.out hpg.out)
          refine hK.out _ _ ⟨P4.out.at_.cell 0,P4.out.at_.cell 2,(P4.out.tk.cell n).trans htk'.out⟩ (fun _=>?_)
          clear hK K d0 d1 d2 d3 d4 d5 f0 f1 f2 f3 f4 f5
          refine wpAnyH_done (by kernel_rfl) ?_ _
          go_wp2
          refine ret_val1 (p:=2) rfl rfl (A3.out.six) rfl ?_
          have hv0:=hsz3.out
          have hp0:=hp.out
          refine ⟨_,rfl,V3.out.kept (fun c _ hc=>?_) ⟨same_six.1,fun c hc hl=>same_six.2 c ?_ hl⟩,P4.out,F3.out.six (Nat.le_of_eq hp.out) _ _ _ _ _ _⟩
          · omega
          · show c≠p
            omega
        exact AllReadyH.nil
      exact AllReadyH.nil
    exact AllReadyH.nil
  exact AllReadyH.nil
theorem valueP_k1 (b g : Nat) (s : ByteArray) (hs : s.size ≤ 281474976710656) (i k j : Nat) (t : Vt) (hk : Hid (IsSkip s i k)) (hks : k < s.size) (hc : Hid (kindC (byteAt s k) = 1))
    (hcall:Hid (∀ u,Hid (PaI b g s k u)→Calls Tryz.prog 138 #[.pointer (some ⟨b,0,none⟩)] u fun e w'=>ParP b g s j t u e w')) (w:World) (hP:Hid (PaI b g s i w)) :
    Calls Tryz.prog 126 #[.pointer (some ⟨b,0,none⟩)] w fun e w'=>ParP b g s j t w e w':=valueP_g b g s hs i k j t hk hks 1 138 (by decide) hc rfl (fun _ _=>by kernel_rfl) hcall w hP
theorem valueP_k2 (b g : Nat) (s : ByteArray) (hs : s.size ≤ 281474976710656) (i k j : Nat) (t : Vt) (hk : Hid (IsSkip s i k)) (hks : k < s.size) (hc : Hid (kindC (byteAt s k) = 2))
    (hcall:Hid (∀ u,Hid (PaI b g s k u)→Calls Tryz.prog 139 #[.pointer (some ⟨b,0,none⟩)] u fun e w'=>ParP b g s j t u e w')) (w:World) (hP:Hid (PaI b g s i w)) :
    Calls Tryz.prog 126 #[.pointer (some ⟨b,0,none⟩)] w fun e w'=>ParP b g s j t w e w':=valueP_g b g s hs i k j t hk hks 2 139 (by decide) hc rfl (fun _ _=>by kernel_rfl) hcall w hP
theorem valueP_k3 (b g : Nat) (s : ByteArray) (hs : s.size ≤ 281474976710656) (i k j : Nat) (t : Vt) (hk : Hid (IsSkip s i k)) (hks : k < s.size) (hc : Hid (kindC (byteAt s k) = 3))
    (hcall:Hid (∀ u,Hid (PaI b g s k u)→Calls Tryz.prog 140 #[.pointer (some ⟨b,0,none⟩)] u fun e w'=>ParP b g s j t u e w')) (w:World) (hP:Hid (PaI b g s i w)) :
    Calls Tryz.prog 126 #[.pointer (some ⟨b,0,none⟩)] w fun e w'=>ParP b g s j t w e w':=valueP_g b g s hs i k j t hk hks 3 140 (by decide) hc rfl (fun _ _=>by kernel_rfl) hcall w hP
theorem valueP_k4 (b g : Nat) (s : ByteArray) (hs : s.size ≤ 281474976710656) (i k j : Nat) (t : Vt) (hk : Hid (IsSkip s i k)) (hks : k < s.size) (hc : Hid (kindC (byteAt s k) = 4))
    (hcall:Hid (∀ u,Hid (PaI b g s k u)→Calls Tryz.prog 141 #[.pointer (some ⟨b,0,none⟩)] u fun e w'=>ParP b g s j t u e w')) (w:World) (hP:Hid (PaI b g s i w)) :
    Calls Tryz.prog 126 #[.pointer (some ⟨b,0,none⟩)] w fun e w'=>ParP b g s j t w e w':=valueP_g b g s hs i k j t hk hks 4 141 (by decide) hc rfl (fun _ _=>by kernel_rfl) hcall w hP
theorem valueP_k5 (b g : Nat) (s : ByteArray) (hs : s.size ≤ 281474976710656) (i k j : Nat) (t : Vt) (hk : Hid (IsSkip s i k)) (hks : k < s.size) (hc : Hid (kindC (byteAt s k) = 5))
    (hcall:Hid (∀ u,Hid (PaI b g s k u)→Calls Tryz.prog 142 #[.pointer (some ⟨b,0,none⟩)] u fun e w'=>ParP b g s j t u e w')) (w:World) (hP:Hid (PaI b g s i w)) :
    Calls Tryz.prog 126 #[.pointer (some ⟨b,0,none⟩)] w fun e w'=>ParP b g s j t w e w':=valueP_g b g s hs i k j t hk hks 5 142 (by decide) hc rfl (fun _ _=>by kernel_rfl) hcall w hP
theorem valueP_k6 (b g : Nat) (s : ByteArray) (hs : s.size ≤ 281474976710656) (i k j : Nat) (t : Vt) (hk : Hid (IsSkip s i k)) (hks : k < s.size) (hc : Hid (kindC (byteAt s k) = 6))
    (hcall:Hid (∀ u,Hid (PaI b g s k u)→Calls Tryz.prog 143 #[.pointer (some ⟨b,0,none⟩)] u fun e w'=>ParP b g s j t u e w')) (w:World) (hP:Hid (PaI b g s i w)) :
    Calls Tryz.prog 126 #[.pointer (some ⟨b,0,none⟩)] w fun e w'=>ParP b g s j t w e w':=valueP_g b g s hs i k j t hk hks 6 143 (by decide) hc rfl (fun _ _=>by kernel_rfl) hcall w hP
end Go.Proofs.YtongedjlmohogaaGreatDoor
