import Derived.Test.YtongedjlmohogaaGreatDoorFreeKit
namespace Go.Proofs.YtongedjlmohogaaGreatDoor
open Go.RowKit Go.Shelf
section
variable {P:Program}
def BFree (B:Nat) (I:Nat→World→Prop):Prop:=∀ s W W',I s W→Below B W W'→I s W'
theorem below_of_grown {B:Nat} {W W':World} {row:Option Nat} (hg:W.grownBy W' row) (hB:B≤W.heap.size) (hr:∀ r,row=some r→B≤r):Below B W W' :=
 ⟨hg.os,hg.tape,hg.output,hg.size,fun k hk=>hg.block k (by omega) (fun e=>by have:=hr k e.symm;omega)⟩
def SeqTellR (Good:World→Prop) (n:Nat) (P:Program) (g:Nat) (lb:Array Value) (E:Nat→Nat→Nat→Array Value→World→Prop) (Kp:Nat→Nat→World→World→Prop) (N:Nat) (w:World):Prop :=
 ∀ (l:Nat) (J Jx:Nat→World→Prop) (W:World),Below w.heap.size w W→BFree W.heap.size J→BFree W.heap.size Jx→(∀ r A,J r A→Good A) →
  (∀ r c x W1,J r W1→r<N→E W.heap.size r c x W1→YieldAt Fence.wide (n-1) P l x W1 fun e W' =>
   (e = .returned (.bool true)∧J (r+1) W'∧Kp W.heap.size c W1 W')∨(e = .returned (.bool false)∧Jx (r+1) W'∧Kp W.heap.size c W1 W')) →
  J 0 W →
  CallsIn Fence.wide n P g (#[.func (.yield l) #[] #[]]++lb) W fun e W'=>(∃ v,e = .returned v)∧(J N W'∨∃ r,r≤N∧Jx r W')
def tellPostR (B:Nat) (Kp:World→World→Prop) (I:Nat→World→Prop) (Ix:Code→Nat→World→Prop) (r:Nat) (W:World):Exit→Act→World→Prop
 | .normal,_,W'=>KeepsFrom B W W'∧Kp W W'∧I r W'
 | .ret,_,W'=>KeepsFrom B W W'∧Kp W W'∧Ix .ret r W'
 | .exit id,_,W'=>KeepsFrom B W W'∧Kp W W'∧Ix (.exit id) r W'
 | .goto t,_,W'=>KeepsFrom B W W'∧Kp W W'∧Ix (.goto t) r W'
 | .panic _,_,_=>False
 | .outgrown,_,_=>False
theorem range_tellR {Good:World→Prop} {n:Nat} {g:Operand} {ps:Array Tmp} {assign body:Code} {Q:Exit→Act→World→Prop} {a:Act} {w:World}
  (hn:1≤n) {gf:Nat} {lb:Array Value} (hg:a.eval g = .func (.func gf) #[] lb) (eg:∀ args w,(callFunc gf args).run P w = .ok (.enter gf args) w)
  {E:Nat→Nat→Nat→Array Value→World→Prop} {Kp:Nat→Nat→World→World→Prop} {N:Nat} {w0:World} (hseq:SeqTellR Good (n-1) P gf lb E Kp N w0) (hb0:Below w0.heap.size w0 w) (hps:∀ b r c x W,E b r c x W→x.size=ps.size)
  (hKt:∀ {b c:Nat} {A B C:World},Kp b c A B→Kp b c B C→Kp b c A C) (hKl:∀ (c:Nat) (W:World) (l:Nat) (r r':Loop),w.heap.size≤l→l<w.heap.size+1+1→W.heap[l]? = some (.loop r)→Kp (w.heap.size+1+1) c W (W.putObj l (.loop r')))
  (I:Nat→World→Prop) (Ix:Code→Nat→World→Prop) (hIf:BFree w.heap.size I) (hIxf:∀ c,BFree w.heap.size (Ix c)) (hIs:∀ r W,I r W→w.heap.size≤W.heap.size) (hIxs:∀ c r W,Ix c r W→w.heap.size≤W.heap.size) (h0:I 0 w) (hGd:∀ r W,I r W→Good W)
  (Ax:Nat→Nat→Act→World→Prop) (hAx:∀ x c a',OwnFrom w.heap.size (fun (_:Unit) W=>Ax x c a' W))
  (hassign:∀ (l:Nat) (r c:Nat) (x:Array Value) (W:World) (K:Act→World→Prop),r<N→I r W→E (w.heap.size+1+1) r c x W→(∀ a' W',KeepsFrom w.heap.size W W'→Kp (w.heap.size+1+1) c W W'→I r W'→Ax r c a' W'→K a' W') →
   assign.wpIn (Fence.wide.inRound l) (n-1-1) P (Exit.then K (fun _ _ _=>False)) { tmps:=(ps.zip x).foldl (fun t (p,v)=>t.setIfInBounds p v) a.tmps,defers:=[] } W)
  (hbody:∀ (l:Nat) (r c:Nat) (a':Act) (W:World),w.heap.size≤l→(∃ r,W.heap[l]? = some (.loop r))→r<N→I r W→Ax r c a' W→body.wpIn (Fence.wide.inRound l) (n-1-1) P (tellPostR w.heap.size (Kp (w.heap.size+1+1) c) I Ix (r+1) W) a' W)
  (hdone:∀ (D:Nat) (W:World),w.heap.size≤D→I N W→W.heap[D]? = some (.deferred (some []))→Q .normal { a with defers:={ target:=.collected D,args:=#[] } :: a.defers } W)
  (hstop:∀ (D:Nat) (c:Code) (r:Nat) (W:World),w.heap.size≤D→r≤N→Ix c r W→W.heap[D]? = some (.deferred (some []))→c.wpIn Fence.wide n P Q { a with defers:={ target:=.collected D,args:=#[] } :: a.defers } W) :
  (Code.rangeFunc g ps assign body).wpIn Fence.wide n P Q a w:=by
 have hI:OwnFrom w.heap.size I:=fun s W W' row hs hg hr=>hIf s W W' hs (below_of_grown hg (hIs s W hs) (fun r e=>(hr r e).1))
 have hIx:∀ c,OwnFrom w.heap.size (Ix c):=fun c s W W' row hs hg hr=>hIxf c s W W' hs (below_of_grown hg (hIxs c s W hs) (fun r e=>(hr r e).1))
 refine wpIn_rangeFunc fun fn hfn=>?_
 obtain ⟨L,hL⟩:∃ L:LoopState→Option Code→Loop,L=fun st pe=>{ state:=st,pending:=pe,fn,tmps:=a.tmps,params:=ps,assign,body,defers:=w.heap.size }:=⟨_,rfl⟩
 have book1:=Book.new w (L .ready none)
 have inv1:I 0 ((w.alloc (.deferred (some []))).alloc (.loop (L .ready none))):=hI.alloc _ (hI.alloc _ h0)
 have below1:Below w0.heap.size w0 ((w.alloc (.deferred (some []))).alloc (.loop (L .ready none))) :=
  hb0.trans ((((Below.refl _ w).alloc (Nat.le_refl _) _).alloc (by simp) _).mono hb0.size)
 have size1:((w.alloc (.deferred (some []))).alloc (.loop (L .ready none))).heap.size=w.heap.size+1+1:=by simp
 have enter1:(Instr.enterLoop fn a.tmps ps assign body Fence.wide.round).run P w = .ok (w.heap.size+1,[{ target:=.collected w.heap.size,args:=#[] }]) ((w.alloc (.deferred (some []))).alloc (.loop (L .ready none))):=by
  rw [hL];exact run_enterLoop_outer _ _ _ _ _
 generalize (w.alloc (.deferred (some []))).alloc (.loop (L .ready none))=W1 at *
 -- between two rounds,and behind the one that has left
 obtain ⟨J,hJ⟩:∃ J:Nat→World→Prop,J=fun r W=>I r W∧Book w.heap.size (L .ready none) W:=⟨_,rfl⟩
 obtain ⟨Jx,hJx⟩:∃ Jx:Nat→World→Prop,Jx=fun r W=>∃ c,Ix c r W∧Book w.heap.size (L .done (some c)) W:=⟨_,rfl⟩
 have abJ:BFree W1.heap.size J:=fun s X Y hs hg'=>by
  rw [hJ] at hs ⊢
  exact ⟨hIf s X Y hs.1 (hg'.mono (by omega)),(hg'.block _ (by omega)).trans hs.2.1,(hg'.block _ (by omega)).trans hs.2.2⟩
 have abJx:BFree W1.heap.size Jx:=fun s X Y hs hg'=>by
  rw [hJx] at hs ⊢
  obtain ⟨c,h1,h2⟩:=hs
  exact ⟨c,hIxf c s X Y h1 (hg'.mono (by omega)),(hg'.block _ (by omega)).trans h2.1,(hg'.block _ (by omega)).trans h2.2⟩
 have round:∀ r c x W,J r W→r<N→E (w.heap.size+1+1) r c x W→YieldAt Fence.wide (n-1-1) P (w.heap.size+1) x W fun e W' =>
   (e = .returned (.bool true)∧J (r+1) W'∧Kp (w.heap.size+1+1) c W W')∨(e = .returned (.bool false)∧Jx (r+1) W'∧Kp (w.heap.size+1+1) c W W'):=by
  intro r c x W hs hlt hE
  rw [hJ] at hs
  obtain ⟨inv,book⟩:=hs
  have hy:=run_yield (P:=P) (args:=x) book.1 (by rw [hL];exact hps _ r c x W hE)
  rw [hL] at hy
  refine ⟨fn,_,assign,body,hy,roundIn_of_wpIn hfn (hassign _ r c x W _ hlt inv hE ?_)⟩
  clear hy
  intro a' Wa hka hkpa inva hax
  have booka:=book.keeps hka
  refine ⟨_,run_beginRound booka.1 (by rw [hL]),?_⟩
  have busy:=booka.turn { L .ready none with state:=.busy }
  have invB:=hI.putObj (.loop { L .ready none with state:=.busy }) inva (by omega) booka.1 rfl
  have axB:=(hAx r c a').putObj (s:=()) (.loop { L .ready none with state:=.busy }) hax (by omega) booka.1 rfl
  have kpB:=hKt hkpa (hKl c Wa (w.heap.size+1) _ { L .ready none with state:=.busy } (by omega) (by omega) booka.1)
  generalize Wa.putObj (w.heap.size+1) (.loop { L .ready none with state:=.busy })=WB at *
  refine wpIn_mono (hbody _ r c a' WB (by omega) ⟨_,busy.1⟩ hlt invB axB) ?_
  have last:∀ (jump:Option Code) (W3:World),KeepsFrom w.heap.size WB W3→(Instr.endRound (w.heap.size+1) jump).run P W3 = .ok (.bool jump.isNone) (W3.putObj (w.heap.size+1) (.loop (L (if jump.isNone then .ready else .done) jump)))∧Book w.heap.size { L .ready none with state:=.busy } W3:=fun jump W3 hk=>by
   have b3:=busy.keeps hk
   have e:=run_endRound (P:=P) jump b3.1
   refine ⟨?_,b3⟩
   rw [hL] at e ⊢
   exact e
  have leave:∀ (cd:Code) (W3:World),KeepsFrom w.heap.size WB W3∧Kp (w.heap.size+1+1) c WB W3∧Ix cd (r+1) W3→∃ v W4,(Instr.endRound (w.heap.size+1) (some cd)).run P W3 = .ok v W4 ∧
    ((Ending.returned v = .returned (.bool true)∧J (r+1) W4∧Kp (w.heap.size+1+1) c W W4)∨(Ending.returned v = .returned (.bool false)∧Jx (r+1) W4∧Kp (w.heap.size+1+1) c W W4)):=fun cd W3 ⟨hk,hkp,hx⟩=>by
   obtain ⟨e,b3⟩:=last (some cd) W3 hk
   exact ⟨_,_,e,.inr ⟨rfl,by rw [hJx];exact ⟨cd,(hIx cd).putObj _ hx (by omega) b3.1 rfl,b3.turn _⟩,hKt kpB (hKt hkp (hKl c W3 _ _ _ (by omega) (by omega) b3.1))⟩⟩
  intro e a3 W3 hp
  cases e with
  | normal =>
   obtain ⟨hk,hkp,hi3⟩:=hp
   obtain ⟨e,b3⟩:=last none W3 hk
   exact ⟨_,_,e,.inl ⟨rfl,by rw [hJ];exact ⟨hI.putObj _ hi3 (by omega) b3.1 rfl,b3.turn _⟩,hKt kpB (hKt hkp (hKl c W3 _ _ _ (by omega) (by omega) b3.1))⟩⟩
  | ret=>exact leave _ W3 hp
  | exit id=>exact leave _ W3 hp
  | goto t=>exact leave _ W3 hp
  | panic ch=>exact hp.elim
  | outgrown=>exact hp.elim
 refine ⟨w.heap.size+1,[{ target:=.collected w.heap.size,args:=#[] }],W1,{ target:=.fn (.func gf) lb,args:=#[.func (.yield (w.heap.size+1)) #[] #[]] },W1,gf,
  #[.func (.yield (w.heap.size+1)) #[] #[]]++lb,W1,enter1,?_,?_,?_,fun _=>hn,?_⟩
 ·simp only [resolve,hg]
  simp [go_sem]
 ·intro f' _;trivial
 ·simp [invoke,go_sem,eg]
 ·refine (hseq (w.heap.size+1) J Jx W1 below1 abJ abJx (fun r A h=>by rw [hJ] at h;exact hGd r A h.1) (by rw [size1];exact round) (by rw [hJ];exact ⟨inv1,book1⟩)).mono ?_
  rintro e W2 ⟨⟨v,rfl⟩,h | h⟩
  ·rw [hJ] at h
   obtain ⟨hi2,b2⟩:=h
   have e:=run_endLoop (P:=P) b2.1 (by rw [hL];simp)
   exact ⟨none,_,by rw [hL] at e;exact e,hdone _ _ (Nat.le_refl _) (hI.putObj _ hi2 (by omega) b2.1 rfl) ((World.putObj_heap_other (by omega)).trans b2.2)⟩
  ·obtain ⟨r,hr,hs⟩:=h
   rw [hJx] at hs
   obtain ⟨c,hx2,b2⟩:=hs
   have e:=run_endLoop (P:=P) b2.1 (by rw [hL];simp)
   exact ⟨some c,_,by rw [hL] at e;exact e,hstop _ c r _ (Nat.le_refl _) hr ((hIx c).putObj _ hx2 (by omega) b2.1 rfl) ((World.putObj_heap_other (by omega)).trans b2.2)⟩
theorem range_tellY {β:Type} {Good:World→Prop} {n:Nat} {g:Operand} {ps:Array Tmp} {assign body:Code} {Q:Exit→Act→World→Prop} {a:Act} {w:World}
  (hn:1≤n) {gf:Nat} {lb:Array Value} (hg:a.eval g = .func (.func gf) #[] lb) (eg:∀ args w,(callFunc gf args).run P w = .ok (.enter gf args) w)
  {E:Nat→Nat→Nat→Array Value→World→Prop} {Kp:Nat→Nat→World→World→Prop} {N:Nat} {w0:World} (hseq:SeqTellR Good (n-1) P gf lb E Kp N w0) (hb0:Below w0.heap.size w0 w) (hps:∀ b r c x W,E b r c x W→x.size=ps.size)
  (hKt:∀ {b c:Nat} {A B C:World},Kp b c A B→Kp b c B C→Kp b c A C) (hKl:∀ (c:Nat) (W:World) (l:Nat) (r r':Loop),w.heap.size≤l→l<w.heap.size+1+1→W.heap[l]? = some (.loop r)→Kp (w.heap.size+1+1) c W (W.putObj l (.loop r')))
  (I:Nat→World→Prop) (Ix:Code→Nat→World→Prop) (hIf:BFree w.heap.size I) (hIxf:∀ c,BFree w.heap.size (Ix c)) (hIs:∀ r W,I r W→w.heap.size≤W.heap.size) (hIxs:∀ c r W,Ix c r W→w.heap.size≤W.heap.size) (h0:I 0 w) (hGd:∀ r W,I r W→Good W)
  (Y:Nat→Nat→β→World→Prop) (G:Array Value→β→Act) (hY:∀ r c y,OwnFrom w.heap.size (fun (_:Unit) W=>Y r c y W))
  (hassign:∀ (l:Nat) (r c:Nat) (x:Array Value) (W:World) (K:Act→World→Prop),r<N→I r W→E (w.heap.size+1+1) r c x W→(∀ y W',KeepsFrom w.heap.size W W'→Kp (w.heap.size+1+1) c W W'→I r W'→Y r c y W'→K (G a.tmps y) W') →
   assign.wpIn (Fence.wide.inRound l) (n-1-1) P (Exit.then K (fun _ _ _=>False)) { tmps:=(ps.zip x).foldl (fun t (p,v)=>t.setIfInBounds p v) a.tmps,defers:=[] } W)
  (hbody:∀ (l:Nat) (r c:Nat) (y:β) (W:World),w.heap.size≤l→(∃ r,W.heap[l]? = some (.loop r))→r<N→I r W→Y r c y W→body.wpIn (Fence.wide.inRound l) (n-1-1) P (tellPostR w.heap.size (Kp (w.heap.size+1+1) c) I Ix (r+1) W) (G a.tmps y) W)
  (hdone:∀ (D:Nat) (W:World),w.heap.size≤D→I N W→W.heap[D]? = some (.deferred (some []))→Q .normal { a with defers:={ target:=.collected D,args:=#[] } :: a.defers } W)
  (hstop:∀ (D:Nat) (c:Code) (r:Nat) (W:World),w.heap.size≤D→r≤N→Ix c r W→W.heap[D]? = some (.deferred (some []))→c.wpIn Fence.wide n P Q { a with defers:={ target:=.collected D,args:=#[] } :: a.defers } W) :
  (Code.rangeFunc g ps assign body).wpIn Fence.wide n P Q a w :=
 range_tellR hn hg eg hseq hb0 hps hKt hKl I Ix hIf hIxf hIs hIxs h0 hGd (fun r c a' W=>∃ y,Y r c y W∧a'=G a.tmps y)
  (fun r c a' u W W' row h hg hr=>by obtain ⟨y,h1,h2⟩:=h;exact ⟨y,hY r c y u W W' row h1 hg hr,h2⟩)
  (fun l r c x W K h1 h2 h3 h4=>hassign l r c x W K h1 h2 h3 (fun y W' a1 a2 a3 a4=>h4 _ W' a1 a2 a3 ⟨y,a4,rfl⟩))
  (fun l r c a' W h1 h2 h3 h4 h5=>by obtain ⟨y,h6,rfl⟩:=h5;exact hbody l r c y W h1 h2 h3 h4 h6)
  hdone hstop
end
end Go.Proofs.YtongedjlmohogaaGreatDoor
