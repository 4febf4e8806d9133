import Derived.Test.YtongedjlmohogaaGreatDoorTellR
import Derived.RangeFuncNested
namespace Go.Proofs.YtongedjlmohogaaGreatDoor
open Go.RowKit Go.Shelf
section
variable {P:Program}
def RFree (R:World→World→Prop) (I:Nat→World→Prop):Prop:=∀ s W W',I s W→R W W'→I s W'
def tellPostN (b:Nat) (Kp:World→World→Prop) (I:Nat→World→Prop) (Ix:Code→Nat→World→Prop) (r:Nat) (W:World):Exit→Act→World→Prop
 | .normal,_,W'=>(∀ o,W.heap[b]? = some o→W'.heap[b]? = some o)∧Kp W W'∧I r W'
 | .ret,_,W'=>(∀ o,W.heap[b]? = some o→W'.heap[b]? = some o)∧Kp W W'∧Ix .ret r W'
 | .exit id,_,W'=>(∀ o,W.heap[b]? = some o→W'.heap[b]? = some o)∧Kp W W'∧Ix (.exit id) r W'
 | .goto t,_,W'=>(∀ o,W.heap[b]? = some o→W'.heap[b]? = some o)∧Kp W W'∧Ix (.goto t) r W'
 | .panic _,_,_=>False
 | .outgrown,_,_=>False
theorem range_tellN {Good:World→Prop} {n:Nat} {g:Operand} {ps:Array Tmp} {assign body:Code} {Q:Exit→Act→World→Prop} {a:Act} {w:World} {l0:Nat} {r0:Loop} (hl0:w.heap[l0]? = some (.loop r0))
  (hn:1≤n) {gf:Nat} {lb:Array Value} (hg:a.eval g = .func (.func gf) #[] lb) (eg:∀ args w,(callFunc gf args).run P w = .ok (.enter gf args) w)
  (R:Nat→World→World→Prop) (hR1:∀ B X Y,w.heap.size≤B→Below B X Y→R B X Y) (hR2:∀ B B' X Y,B≤B'→R B' X Y→R B X Y) (hR3:∀ B X Y k,R B X Y→w.heap.size≤k→k<B→Y.heap[k]? = X.heap[k]?)
  {E:Nat→Nat→Nat→Array Value→World→Prop} {Kp:Nat→Nat→World→World→Prop} {N:Nat}
  (hseq:∀ (rec:Loop) (l:Nat) (J Jx:Nat→World→Prop),RFree (R (w.heap.size+1)) J→RFree (R (w.heap.size+1)) Jx→(∀ r A,J r A→Good A) →
   (∀ r c x W1,J r W1→r<N→E (w.heap.size+1) r c x W1→YieldAt Fence.wide (n-1-1) P l x W1 fun e W' =>
    (e = .returned (.bool true)∧J (r+1) W'∧Kp (w.heap.size+1) c W1 W')∨(e = .returned (.bool false)∧Jx (r+1) W'∧Kp (w.heap.size+1) c W1 W')) →
   J 0 (w.alloc (.loop rec)) →
   CallsIn Fence.wide (n-1) P gf (#[.func (.yield l) #[] #[]]++lb) (w.alloc (.loop rec)) fun e W'=>(∃ v,e = .returned v)∧(J N W'∨∃ r,r≤N∧Jx r W'))
  (hps:∀ b r c x W,E b r c x W→x.size=ps.size)
  (hKt:∀ {b c:Nat} {A B C:World},Kp b c A B→Kp b c B C→Kp b c A C) (hKl:∀ (c:Nat) (W:World) (r r':Loop),W.heap[w.heap.size]? = some (.loop r)→Kp (w.heap.size+1) c W (W.putObj w.heap.size (.loop r')))
  (I:Nat→World→Prop) (Ix:Code→Nat→World→Prop) (hIf:RFree (R w.heap.size) I) (hIxf:∀ c,RFree (R w.heap.size) (Ix c)) (hIs:∀ r W,I r W→w.heap.size≤W.heap.size) (hIxs:∀ c r W,Ix c r W→w.heap.size≤W.heap.size) (h0:I 0 w) (hGd:∀ r W,I r W→Good W)
  (Ax:Nat→Nat→Act→World→Prop) (hAx:∀ x c a',OwnFrom w.heap.size (fun (_:Unit) W=>Ax x c a' W))
  (hassign:∀ (l:Nat) (r c:Nat) (x:Array Value) (W:World) (K:Act→World→Prop),r<N→I r W→E (w.heap.size+1) r c x W→(∀ a' W',(∀ o,W.heap[w.heap.size]? = some o→W'.heap[w.heap.size]? = some o)→Kp (w.heap.size+1) c W W'→I r W'→Ax r c a' W'→K a' W') →
   assign.wpIn (Fence.wide.inRound l) (n-1-1) P (Exit.then K (fun _ _ _=>False)) { tmps:=(ps.zip x).foldl (fun t (p,v)=>t.setIfInBounds p v) a.tmps,defers:=[] } W)
  (hbody:∀ (l:Nat) (r c:Nat) (a':Act) (W:World),w.heap.size≤l→(∃ r,W.heap[l]? = some (.loop r))→r<N→I r W→Ax r c a' W→body.wpIn (Fence.wide.inRound l) (n-1-1) P (tellPostN w.heap.size (Kp (w.heap.size+1) c) I Ix (r+1) W) a' W)
  (hdone:∀ (W:World),I N W→Q .normal a W)
  (hstop:∀ (c:Code) (r:Nat) (W:World),r≤N→Ix c r W→c.wpIn (Fence.wide.inRound l0) n P Q a W) :
  (Code.rangeFunc g ps assign body).wpIn (Fence.wide.inRound l0) n P Q a w:=by
 have hI:OwnFrom w.heap.size I:=fun s W W' row hs hg hr=>hIf s W W' hs (hR1 _ _ _ (Nat.le_refl _) (below_of_grown hg (hIs s W hs) (fun r e=>(hr r e).1)))
 have hIx:∀ c,OwnFrom w.heap.size (Ix c):=fun c s W W' row hs hg hr=>hIxf c s W W' hs (hR1 _ _ _ (Nat.le_refl _) (below_of_grown hg (hIxs c s W hs) (fun r e=>(hr r e).1)))
 refine wpIn_rangeFunc fun fn hfn=>?_
 obtain ⟨L,hL⟩:∃ L:LoopState→Option Code→Loop,L=fun st pe=>{ state:=st,pending:=pe,fn,tmps:=a.tmps,params:=ps,assign,body,defers:=r0.defers }:=⟨_,rfl⟩
 have hL1:(w.alloc (.loop (L .ready none))).heap[w.heap.size]? = some (.loop (L .ready none)):=World.alloc_heap_new w _
 have inv1:I 0 (w.alloc (.loop (L .ready none))):=hI.alloc _ h0
 have enter1:(Instr.enterLoop fn a.tmps ps assign body (some l0)).run P w = .ok (w.heap.size,[]) (w.alloc (.loop (L .ready none))):=by
  rw [hL];exact run_enterLoop_inner hl0 _ _ _ _ _
 have hsq:=hseq (L .ready none) w.heap.size
 generalize w.alloc (.loop (L .ready none))=W1 at *
 obtain ⟨J,hJ⟩:∃ J:Nat→World→Prop,J=fun r W=>I r W∧W.heap[w.heap.size]? = some (.loop (L .ready none)):=⟨_,rfl⟩
 obtain ⟨Jx,hJx⟩:∃ Jx:Nat→World→Prop,Jx=fun r W=>∃ c,Ix c r W∧W.heap[w.heap.size]? = some (.loop (L .done (some c))):=⟨_,rfl⟩
 have abJ:RFree (R (w.heap.size+1)) J:=fun s X Y hs hg'=>by
  rw [hJ] at hs ⊢
  exact ⟨hIf s X Y hs.1 (hR2 _ _ _ _ (Nat.le_succ _) hg'),(hR3 _ _ _ _ hg' (Nat.le_refl _) (Nat.lt_succ_self _)).trans hs.2⟩
 have abJx:RFree (R (w.heap.size+1)) Jx:=fun s X Y hs hg'=>by
  rw [hJx] at hs ⊢
  obtain ⟨c,h1,h2⟩:=hs
  exact ⟨c,hIxf c s X Y h1 (hR2 _ _ _ _ (Nat.le_succ _) hg'),(hR3 _ _ _ _ hg' (Nat.le_refl _) (Nat.lt_succ_self _)).trans h2⟩
 have round:∀ r c x W,J r W→r<N→E (w.heap.size+1) r c x W→YieldAt Fence.wide (n-1-1) P w.heap.size x W fun e W' =>
   (e = .returned (.bool true)∧J (r+1) W'∧Kp (w.heap.size+1) c W W')∨(e = .returned (.bool false)∧Jx (r+1) W'∧Kp (w.heap.size+1) c W W'):=by
  intro r c x W hs hlt hE
  rw [hJ] at hs
  obtain ⟨inv,book⟩:=hs
  have hy:=run_yield (P:=P) (args:=x) book (by rw [hL];exact hps _ r c x W hE)
  rw [hL] at hy
  refine ⟨fn,_,assign,body,hy,roundIn_of_wpIn hfn (hassign _ r c x W _ hlt inv hE ?_)⟩
  clear hy
  intro a' Wa hka hkpa inva hax
  have booka:=hka _ book
  have hlta:w.heap.size<Wa.heap.size:=(Array.getElem?_eq_some_iff.1 booka).1
  refine ⟨_,run_beginRound booka (by rw [hL]),?_⟩
  have busy:(Wa.putObj w.heap.size (.loop { L .ready none with state:=.busy })).heap[w.heap.size]? = some (.loop { L .ready none with state:=.busy }):=World.putObj_heap_same hlta
  have invB:=hI.putObj (.loop { L .ready none with state:=.busy }) inva (Nat.le_refl _) booka rfl
  have axB:=(hAx r c a').putObj (s:=()) (.loop { L .ready none with state:=.busy }) hax (Nat.le_refl _) booka rfl
  have kpB:=hKt hkpa (hKl c Wa _ { L .ready none with state:=.busy } booka)
  generalize Wa.putObj w.heap.size (.loop { L .ready none with state:=.busy })=WB at *
  refine wpIn_mono (hbody _ r c a' WB (Nat.le_refl _) ⟨_,busy⟩ hlt invB axB) ?_
  have last:∀ (jump:Option Code) (W3:World),(∀ o,WB.heap[w.heap.size]? = some o→W3.heap[w.heap.size]? = some o)→(Instr.endRound w.heap.size jump).run P W3 = .ok (.bool jump.isNone) (W3.putObj w.heap.size (.loop (L (if jump.isNone then .ready else .done) jump)))∧W3.heap[w.heap.size]? = some (.loop { L .ready none with state:=.busy }) ∧
    (W3.putObj w.heap.size (.loop (L (if jump.isNone then .ready else .done) jump))).heap[w.heap.size]? = some (.loop (L (if jump.isNone then .ready else .done) jump)):=fun jump W3 hk=>by
   have b3:=hk _ busy
   have e:=run_endRound (P:=P) jump b3
   refine ⟨?_,b3,World.putObj_heap_same (Array.getElem?_eq_some_iff.1 b3).1⟩
   rw [hL] at e ⊢
   exact e
  have leave:∀ (cd:Code) (W3:World),(∀ o,WB.heap[w.heap.size]? = some o→W3.heap[w.heap.size]? = some o)∧Kp (w.heap.size+1) c WB W3∧Ix cd (r+1) W3→∃ v W4,(Instr.endRound w.heap.size (some cd)).run P W3 = .ok v W4 ∧
    ((Ending.returned v = .returned (.bool true)∧J (r+1) W4∧Kp (w.heap.size+1) c W W4)∨(Ending.returned v = .returned (.bool false)∧Jx (r+1) W4∧Kp (w.heap.size+1) c W W4)):=fun cd W3 ⟨hk,hkp,hx⟩=>by
   obtain ⟨e,b3,b4⟩:=last (some cd) W3 hk
   exact ⟨_,_,e,.inr ⟨rfl,by rw [hJx];exact ⟨cd,(hIx cd).putObj _ hx (Nat.le_refl _) b3 rfl,b4⟩,hKt kpB (hKt hkp (hKl c W3 _ _ b3))⟩⟩
  intro e a3 W3 hp
  cases e with
  | normal =>
   obtain ⟨hk,hkp,hi3⟩:=hp
   obtain ⟨e,b3,b4⟩:=last none W3 hk
   exact ⟨_,_,e,.inl ⟨rfl,by rw [hJ];exact ⟨hI.putObj _ hi3 (Nat.le_refl _) b3 rfl,b4⟩,hKt kpB (hKt hkp (hKl c W3 _ _ b3))⟩⟩
  | ret=>exact leave _ W3 hp
  | exit id=>exact leave _ W3 hp
  | goto t=>exact leave _ W3 hp
  | panic ch=>exact hp.elim
  | outgrown=>exact hp.elim
 refine ⟨w.heap.size,[],W1,{ target:=.fn (.func gf) lb,args:=#[.func (.yield w.heap.size) #[] #[]] },W1,gf,
  #[.func (.yield w.heap.size) #[] #[]]++lb,W1,enter1,?_,?_,?_,fun _=>hn,?_⟩
 ·simp only [resolve,hg]
  simp [go_sem]
 ·intro f' _;trivial
 ·simp [invoke,go_sem,eg]
 ·refine (hsq J Jx abJ abJx (fun r A h=>by rw [hJ] at h;exact hGd r A h.1) round (by rw [hJ];exact ⟨inv1,hL1⟩)).mono ?_
  rintro e W2 ⟨⟨v,rfl⟩,h | h⟩
  ·rw [hJ] at h
   obtain ⟨hi2,b2⟩:=h
   have e:=run_endLoop (P:=P) b2 (by rw [hL];simp)
   exact ⟨none,_,by rw [hL] at e;exact e,hdone _ (hI.putObj _ hi2 (Nat.le_refl _) b2 rfl)⟩
  ·obtain ⟨r,hr,hs⟩:=h
   rw [hJx] at hs
   obtain ⟨c,hx2,b2⟩:=hs
   have e:=run_endLoop (P:=P) b2 (by rw [hL];simp)
   exact ⟨some c,_,by rw [hL] at e;exact e,hstop c r _ hr ((hIx c).putObj _ hx2 (Nat.le_refl _) b2 rfl)⟩
theorem range_tellNY {β:Type} {Good:World→Prop} {n:Nat} {g:Operand} {ps:Array Tmp} {assign body:Code} {Q:Exit→Act→World→Prop} {a:Act} {w:World} {l0:Nat} {r0:Loop} (hl0:w.heap[l0]? = some (.loop r0))
  (hn:1≤n) {gf:Nat} {lb:Array Value} (hg:a.eval g = .func (.func gf) #[] lb) (eg:∀ args w,(callFunc gf args).run P w = .ok (.enter gf args) w)
  (R:Nat→World→World→Prop) (hR1:∀ B X Y,w.heap.size≤B→Below B X Y→R B X Y) (hR2:∀ B B' X Y,B≤B'→R B' X Y→R B X Y) (hR3:∀ B X Y k,R B X Y→w.heap.size≤k→k<B→Y.heap[k]? = X.heap[k]?)
  {E:Nat→Nat→Nat→Array Value→World→Prop} {Kp:Nat→Nat→World→World→Prop} {N:Nat}
  (hseq:∀ (rec:Loop) (l:Nat) (J Jx:Nat→World→Prop),RFree (R (w.heap.size+1)) J→RFree (R (w.heap.size+1)) Jx→(∀ r A,J r A→Good A) →
   (∀ r c x W1,J r W1→r<N→E (w.heap.size+1) r c x W1→YieldAt Fence.wide (n-1-1) P l x W1 fun e W' =>
    (e = .returned (.bool true)∧J (r+1) W'∧Kp (w.heap.size+1) c W1 W')∨(e = .returned (.bool false)∧Jx (r+1) W'∧Kp (w.heap.size+1) c W1 W')) →
   J 0 (w.alloc (.loop rec)) →
   CallsIn Fence.wide (n-1) P gf (#[.func (.yield l) #[] #[]]++lb) (w.alloc (.loop rec)) fun e W'=>(∃ v,e = .returned v)∧(J N W'∨∃ r,r≤N∧Jx r W'))
  (hps:∀ b r c x W,E b r c x W→x.size=ps.size)
  (hKt:∀ {b c:Nat} {A B C:World},Kp b c A B→Kp b c B C→Kp b c A C) (hKl:∀ (c:Nat) (W:World) (r r':Loop),W.heap[w.heap.size]? = some (.loop r)→Kp (w.heap.size+1) c W (W.putObj w.heap.size (.loop r')))
  (I:Nat→World→Prop) (Ix:Code→Nat→World→Prop) (hIf:RFree (R w.heap.size) I) (hIxf:∀ c,RFree (R w.heap.size) (Ix c)) (hIs:∀ r W,I r W→w.heap.size≤W.heap.size) (hIxs:∀ c r W,Ix c r W→w.heap.size≤W.heap.size) (h0:I 0 w) (hGd:∀ r W,I r W→Good W)
  (Y:Nat→Nat→β→World→Prop) (G:Array Value→β→Act) (hY:∀ r c y,OwnFrom w.heap.size (fun (_:Unit) W=>Y r c y W))
  (hassign:∀ (l:Nat) (r c:Nat) (x:Array Value) (W:World) (K:Act→World→Prop),r<N→I r W→E (w.heap.size+1) r c x W→(∀ y W',(∀ o,W.heap[w.heap.size]? = some o→W'.heap[w.heap.size]? = some o)→Kp (w.heap.size+1) c W W'→I r W'→Y r c y W'→K (G a.tmps y) W') →
   assign.wpIn (Fence.wide.inRound l) (n-1-1) P (Exit.then K (fun _ _ _=>False)) { tmps:=(ps.zip x).foldl (fun t (p,v)=>t.setIfInBounds p v) a.tmps,defers:=[] } W)
  (hbody:∀ (l:Nat) (r c:Nat) (y:β) (W:World),w.heap.size≤l→(∃ r,W.heap[l]? = some (.loop r))→r<N→I r W→Y r c y W→body.wpIn (Fence.wide.inRound l) (n-1-1) P (tellPostN w.heap.size (Kp (w.heap.size+1) c) I Ix (r+1) W) (G a.tmps y) W)
  (hdone:∀ (W:World),I N W→Q .normal a W)
  (hstop:∀ (c:Code) (r:Nat) (W:World),r≤N→Ix c r W→c.wpIn (Fence.wide.inRound l0) n P Q a W) :
  (Code.rangeFunc g ps assign body).wpIn (Fence.wide.inRound l0) n P Q a w :=
 range_tellN hl0 hn hg eg R hR1 hR2 hR3 hseq hps hKt hKl I Ix hIf hIxf hIs hIxs h0 hGd (fun r c a' W=>∃ y,Y r c y W∧a'=G a.tmps y)
  (fun r c a' u W W' row h hg hr=>by obtain ⟨y,h1,h2⟩:=h;exact ⟨y,hY r c y u W W' row h1 hg hr,h2⟩)
  (fun l r c x W K h1 h2 h3 h4=>hassign l r c x W K h1 h2 h3 (fun y W' a1 a2 a3 a4=>h4 _ W' a1 a2 a3 ⟨y,a4,rfl⟩))
  (fun l r c a' W h1 h2 h3 h4 h5=>by obtain ⟨y,h6,rfl⟩:=h5;exact hbody l r c y W h1 h2 h3 h4 h6)
  hdone hstop
end
end Go.Proofs.YtongedjlmohogaaGreatDoor
