/-
  Texts of mine that others lean on, one behind the other.
-/
import Derived.Test.YtongedjlmohogaaGreatDoorPack17
import Derived.Test.YtongedjlmohogaaGreatDoorPack11
import Derived.Test.YtongedjlmohogaaGreatDoorPack7
import Derived.Shelf.LaysM
import Derived.Shelf.Strconv.Itoa3
import Derived.Test.YtongedjlmohogaaGreatDoorProg
import Derived.KernelRfl
import Derived.Test.YtongedjlmohogaaGreatDoorRows
import Derived.Test.YtongedjlmohogaaGreatDoorPack1
import Derived.Lib.LaidTab
import Derived.Lib.AppendIntMem
import Derived.Lib.ItoaLen
import Derived.Below
namespace Go.Proofs.YtongedjlmohogaaGreatDoor
open Go.RowKit Go.Shelf
theorem append_ty (ts:Array TypeId) (ty ty':TypeId) (vs:Array Value):Builtin.append_ ts ty vs=Builtin.append_ ts ty' vs:=rfl
theorem wpList_stp {ops:Array Oper} {rest:List Oper} {o:Oper} {a:Act} {w:World} {Q:Exit→Act→World→Prop} (hgd:o.guard=none) (s y:Operand)
  (ho:o.op = .call { callee:=.builtin .append,args:=#[s,y],argTypes:=#[22,22] }) (B:Nat) (v:Value) (ss:List Stp) (u:Stp) (ad:Addr) (c:Nat) (hs:a.eval s=v) (hy:a.eval y = .slice (some ad) 1 c) (h:StG B w v ss)
  (hu:u.name.size≤capT) (hC:∀ (j:Nat) (y:Value),(stCs u)[j]? = some y→w.cell? (ad.add j)=some y) (hn:ss.length<1099511627776) (hB:B≤w.heap.size)
  (hk:∀ v' w',StG B w' v' (ss++[u])→w.grownBy w' v.ownBlock→wpList Tryz.prog ops Q rest (a.put o.dst v') w'):wpList Tryz.prog ops Q (o :: rest) a w:=by
 obtain ⟨v',w',hr,h1,h2⟩:=h.app (ty:=0) hu ad c hC hn hB
 exact wpList_append_run hgd s y 22 ho v _ v' w' hs hy (fun ty=>by rw [append_ty _ ty 0];exact hr) (hk v' w' h1 h2)
theorem pv_text_le {s:ByteArray} {i j:Nat} {t:Vt} (h:PV s i t j):t.text.size≤s.size:=by
 cases h with
 | text i j T h=>exact h.len
 | _=>exact Nat.zero_le _
theorem IsQt.nm {s:ByteArray} {a e:Nat} {o:Option Stp} (h:IsQt s a o e) (x:Stp) (hx:o=some x):x.name.size≤s.size:=by
 obtain ⟨z,-,C,A,E,t,-,ht,h⟩:=h
 rcases h with ⟨h0,h,-⟩ | ⟨-,h,-⟩
 ·rw [h] at hx
  cases hx
  rcases ht with ⟨-,i,j,-,hp⟩ | ⟨h1,-⟩
  ·have:=pv_text_le hp
   rw [ByteArray.size_extract] at this
   show t.text.size≤_
   omega
  ·exact absurd h0 h1
 ·rw [h] at hx;cases hx
theorem star_nm {s:ByteArray} {a:Nat} (x:Stp) (hx:(starF s a).1=some x):x.name.size≤s.size:=by
 unfold starF at hx
 split at hx
 ·cases hx;exact Nat.zero_le _
 ·cases hx
theorem IsBare.nm {s:ByteArray} {a e:Nat} {o:Option Stp} (h:IsBare s a o e) (x:Stp) (hx:o=some x):x.name.size≤s.size:=by
 rcases h with ⟨-,h⟩ | ⟨-,-,h⟩ | ⟨-,-,n,hn,h1,h2⟩
 ·exact h.nm x hx
 ·exact star_nm (s:=s) (a:=a) x (by rw [← h];exact hx)
 ·rw [h1] at hx
  unfold nmF at hx
  split at hx
  ·cases hx;exact Nat.zero_le _
  ·cases hx
theorem IsRead.nm {s:ByteArray} {a e:Nat} {x:Stp} (h:IsRead s a (some x) e):x.name.size≤s.size:=by
 rcases h with ⟨-,n,hn,h,-⟩ | ⟨-,o',e',hb,h⟩ | ⟨-,h,-⟩
 ·unfold bpF at h
  split at h
  ·cases h
   show (s.extract _ _).size≤_
   rw [ByteArray.size_extract]
   omega
  ·exact star_nm x h.symm
 ·rcases h with ⟨-,h,-⟩ | ⟨-,-,h,-⟩
  ·cases h
  ·exact hb.nm x h.symm
 ·cases h
inductive Rds (s:ByteArray):Nat→List Stp→Prop
 | nil:Rds s 1 []
 | snoc {a:Nat} {p:List Stp} {x:Stp} {e:Nat} (h:Rds s a p) (ha:a<s.size) (hx:IsRead s a (some x) e):Rds s e (p++[x])
theorem Rds.le {s:ByteArray} {a:Nat} {p:List Stp} (h:Rds s a p) (h0:0<s.size):a≤s.size∧p.length+1≤a:=by
 induction h with
 | nil=>exact ⟨h0,Nat.le_refl _⟩
 | snoc h ha hx ih =>
  obtain ⟨b,-,d⟩:=hx.rd ha
  have:=(d _ rfl).1
  rw [List.length_append,List.length_singleton]
  exact ⟨b,by omega⟩
def IsPp (s:ByteArray) (p:List Stp) (E:Int) (k:Nat):Prop :=
 (¬ (0<s.size∧lk s 0=36)∧p=[]∧E=220∧k=0)∨((0<s.size∧lk s 0=36)∧((Rds s s.size p∧E=0∧k=0)∨(∃ a q,Rds s a q∧a<s.size∧IsRead s a none k∧p=[]∧E=220)))
theorem fill1Stp (a b c:Value):Instr.fill (fun i=>some (i*3,3)) #[.int .i64 0,.string ⟨#[]⟩,.int .i64 0] [(0,.agg #[a,b,c])]=some #[a,b,c]:=by
 rw [Instr.fill]
 simp [Value.cells,Instr.fill]
theorem zeros1Stp:(Array.range (1*3)).map (fun i=>(#[Value.int .i64 0,Value.string ⟨#[]⟩,Value.int .i64 0]:Array Value)[i % 3]!) = #[.int .i64 0,.string ⟨#[]⟩,.int .i64 0]:=by
 apply Array.ext'
 rw [Array.toList_map,Array.toList_range]
 rfl
theorem build1Stp (a b c:Value) (w:World):Sem.run Tryz.prog (Instr.buildSlice 22 1 #[(0,.agg #[a,b,c])]) w = .ok (.slice (some ⟨w.heap.size,0,none⟩) 1 1) (w.alloc (.cells #[a,b,c] 34)):=by
 have hz:∀ w,(zeroValue 34).run Tryz.prog w = .ok (.agg #[.int .i64 0,.string ⟨#[]⟩,.int .i64 0]) w:=fun w=>by kernel_rfl
 have hs:∀ w,(sizeOf 34).run Tryz.prog w = .ok 3 w:=fun w=>by kernel_rfl
 have hf:=fill1Stp a b c
 rw [← zeros1Stp] at hf
 unfold Instr.buildSlice
 simp only [Sem.run_bind,run_underlying Tryz.underlying22,Result.andThen_ok,hs]
 rw [if_neg (by decide),if_neg (by decide)]
 simp only [Sem.run_bind,hz,Result.andThen_ok,Sem.run_pure,Value.cells]
 have e:(Array.range (1*3)).map (fun x=>(#[Value.int .i64 0,Value.string ⟨#[]⟩,Value.int .i64 0]:Array Value)[x % (#[Value.int .i64 0,Value.string ⟨#[]⟩,Value.int .i64 0]:Array Value).size]!)=(Array.range (1*3)).map (fun i=>(#[Value.int .i64 0,Value.string ⟨#[]⟩,Value.int .i64 0]:Array Value)[i % 3]!):=rfl
 rw [e,hf]
 rfl
end Go.Proofs.YtongedjlmohogaaGreatDoor

namespace Go.Proofs.YtongedjlmohogaaGreatDoor
open Go.RowKit Go.Shelf
theorem ne_empty {s:ByteArray} (h:0<s.size):(s.toList == [])=false:=by
 rw [eq_const s []]
 apply decide_eq_false
 intro h2
 have h3:=congrArg List.length h2
 rw [Array.length_toList] at h3
 have h4:s.data.size=s.size:=rfl
 have h5:s.data.size=0:=h3
 omega
set_option maxRecDepth 10000 in
set_option maxHeartbeats 8000000 in
theorem parse22_calls (s:ByteArray) (hs:s.size≤8388608) (w:World):Calls Tryz.prog 8 #[.string s] w fun e w'=>(∃ v p E k,e = .returned (.tuple #[v,.int .i64 E,.int .i64 ((k:Nat):Int)])∧StG w.heap.size w' v p∧IsPp s p E k)∧Below w.heap.size w w':=by
 have hsi:(s.size:Int)≤8388608:=by omega
 by_cases h0:0<s.size
 ·have hne:=ne_empty h0
  have e0:=lk_at s 0 h0
  by_cases h36:lk s 0=36
  ·have hh:=hid (And.intro h0 h36)
   have c1:(s[0]'h0).toNat=36:=by rw [← e0,h36]
   have hle:=hid (fun a p (h:Rds s a p)=>h.le h0)
   have hrd:=hid (fun a (ha:a<s.size) u=>read22_calls s hs a ha u)
   clear e0 h36
   go_enter Tryz.func8,Tryz.ntmps8
   go_wp2
   go_loopw [5,6] (fun vv ii wr=>∃ (q:List Stp) (a:Nat),Rds s a q∧a≤s.size∧ii = .int .i64 (a:Int)∧Hid (StG w.heap.size wr vv q)∧Hid (Below w.heap.size w wr)) (fun _ ii _=>s.size-(intOf ii).toNat)
   case atStart=>exact ⟨[],1,.nil,hh.out.1,rfl,hid (StG.nil _ _),hid (Below.refl _ _)⟩
   case round =>
    obtain ⟨q,a,hR0,hal,rfl,hG,hB⟩:=hrel
    have hR:=hid hR0
    have hql:=hid (show q.length<1099511627776 by have:=(hle.out a q hR0).2;omega)
    clear hR0 hle
    by_cases hlt:a<s.size
    ·have hli:(a:Int)<(s.size:Int):=by omega
     have ha':=hid hlt
     go_wp2_with fail
     refine Calls.mono (hrd.out a hlt _) ?_
     rintro e w2 ⟨⟨o,x,rfl,hx⟩,b2⟩
     have B2:=hid (hB.out.trans (b2.mono hB.out.size))
     have G2:=hid (hG.out.keptB b2)
     obtain ⟨x1,x2,x3⟩:=hx.rd hlt
     have hX:=hid hx
     have hxl:=hid x1
     clear b2 hG hB hrd hx
     cases o with
     | none =>
      rw [show ifO none = .nilIface from rfl]
      clear x3
      go_wp2_with fail
      refine bodyPost_ret (v:=.tuple #[.slice none 0 0,.int .i64 220,.int .i64 (x:Int)]) (by simp [results,Tryz.results8,go_sem]) rfl ⟨⟨.slice none 0 0,[],220,x,rfl,StG.nil _ _,.inr ⟨hh.out,.inr ⟨a,q,hR.out,ha'.out,hX.out,rfl,rfl⟩⟩⟩,B2.out⟩
     | some st =>
      obtain ⟨hax0,hcn⟩:=x3 st rfl
      have hax:=hid hax0
      have hnm:=hid (show st.name.size≤capT by have:=hX.out.nm;unfold capT;omega)
      clear x3 hax0
      obtain ⟨k,nm,pl⟩:=st
      rcases hcn with ⟨h1,h2⟩ | ⟨h1,h2⟩ | ⟨h1,h2,h3⟩ <;> dsimp only at h1 h2
      ·obtain rfl:=h1
       obtain rfl:=h2
       have hif:ifO (some (⟨1,nm,0⟩:Stp)) = .iface 85 (.string nm):=rfl
       rw [hif]
       clear hif
       have hpl:=hid (fun u=>plnB22_calls nm u)
       have he:∀ (args:Array Value) (u:World),(callFunc 56 args).run Tryz.prog u = .ok (.enter 56 args) u:=fun _ _=>by kernel_rfl
       go_wp2_with fail
       refine upon_method (f:=56) (v:=.string nm) (by kernel_rfl) ?_
       rw [he]
       go_wp2_with fail
       refine Calls.mono (hpl.out _) ?_
       rintro e w3 ⟨rfl,b3⟩
       have B3:=hid (B2.out.trans (b3.mono B2.out.size))
       have G3:=hid (G2.out.keptB b3)
       have hbd:=build1Stp (.int .i64 1) (.string nm) (.int .i64 0)
       have A4:=hid (At.new w3 #[.int .i64 1,.string nm,.int .i64 0] 34)
       have B4:=hid (B3.out.alloc B3.out.size (.cells #[.int .i64 1,.string nm,.int .i64 0] 34))
       have G4:=hid (G3.out.keptB ((Below.refl _ w3).alloc (Nat.le_refl _) (.cells #[.int .i64 1,.string nm,.int .i64 0] 34)))
       have C4:=hid (show ∀ (j:Nat) (y:Value),(stCs ⟨1,nm,0⟩)[j]? = some y→(w3.alloc (.cells #[.int .i64 1,.string nm,.int .i64 0] 34)).cell? ((⟨w3.heap.size,0,none⟩:Addr).add j)=some y from fun j y hj=>by
        have:=A4.out.cell j
        rw [Addr.add_mid,Nat.zero_add,this]
        simpa [stCs] using hj)
       clear b3 hpl he G3 B3 B2 G2 A4
       go_wp2_with (first | (at_builtin;refine wpList_stp rfl _ _ rfl w.heap.size _ q ⟨1,nm,0⟩ _ 1 rfl rfl G4.out hnm.out C4.out hql.out B4.out.size ?_;intro v' w' h1 hg1;have G5:=hid h1;have B5:=hid (B4.out.grown hg1 B4.out.size (fun b e=>(G4.out.blk e).1));clear h1 hg1 G4 B4 C4) | fail)
       go_roundw
       case rel=>exact ⟨q++[⟨1,nm,0⟩],x,Rds.snoc hR.out ha'.out hX.out,hxl.out,rfl,G5,B5⟩
       case measure=>simp [intOf];have:=hax.out;have:=hxl.out;omega
      ·obtain rfl:=h1
       obtain rfl:=h2
       have hif:ifO (some (⟨2,⟨#[]⟩,pl⟩:Stp)) = .iface 87 (.int .i64 pl):=rfl
       rw [hif]
       clear hif
       have hpl:=hid (fun u=>plnP22_calls pl u)
       have he:∀ (args:Array Value) (u:World),(callFunc 58 args).run Tryz.prog u = .ok (.enter 58 args) u:=fun _ _=>by kernel_rfl
       go_wp2_with fail
       refine upon_method (f:=58) (v:=.int .i64 pl) (by kernel_rfl) ?_
       rw [he]
       go_wp2_with fail
       refine Calls.mono (hpl.out _) ?_
       rintro e w3 ⟨rfl,b3⟩
       have B3:=hid (B2.out.trans (b3.mono B2.out.size))
       have G3:=hid (G2.out.keptB b3)
       have hbd:=build1Stp (.int .i64 2) (.string ⟨#[]⟩) (.int .i64 pl)
       have A4:=hid (At.new w3 #[.int .i64 2,.string ⟨#[]⟩,.int .i64 pl] 34)
       have B4:=hid (B3.out.alloc B3.out.size (.cells #[.int .i64 2,.string ⟨#[]⟩,.int .i64 pl] 34))
       have G4:=hid (G3.out.keptB ((Below.refl _ w3).alloc (Nat.le_refl _) (.cells #[.int .i64 2,.string ⟨#[]⟩,.int .i64 pl] 34)))
       have C4:=hid (show ∀ (j:Nat) (y:Value),(stCs ⟨2,⟨#[]⟩,pl⟩)[j]? = some y→(w3.alloc (.cells #[.int .i64 2,.string ⟨#[]⟩,.int .i64 pl] 34)).cell? ((⟨w3.heap.size,0,none⟩:Addr).add j)=some y from fun j y hj=>by
        have:=A4.out.cell j
        rw [Addr.add_mid,Nat.zero_add,this]
        simpa [stCs] using hj)
       clear b3 hpl he G3 B3 B2 G2 A4
       go_wp2_with (first | (at_builtin;refine wpList_stp rfl _ _ rfl w.heap.size _ q ⟨2,⟨#[]⟩,pl⟩ _ 1 rfl rfl G4.out hnm.out C4.out hql.out B4.out.size ?_;intro v' w' h1 hg1;have G5:=hid h1;have B5:=hid (B4.out.grown hg1 B4.out.size (fun b e=>(G4.out.blk e).1));clear h1 hg1 G4 B4 C4) | fail)
       go_roundw
       case rel=>exact ⟨q++[⟨2,⟨#[]⟩,pl⟩],x,Rds.snoc hR.out ha'.out hX.out,hxl.out,rfl,G5,B5⟩
       case measure=>simp [intOf];have:=hax.out;have:=hxl.out;omega
      ·dsimp only at h3
       obtain rfl:=h1
       obtain rfl:=h2
       obtain rfl:=h3
       have hif:ifO (some (⟨3,⟨#[]⟩,0⟩:Stp)) = .iface 89 (.agg #[]):=rfl
       rw [hif]
       clear hif
       have hpl:=hid (fun u=>plnE22_calls u)
       have he:∀ (args:Array Value) (u:World),(callFunc 59 args).run Tryz.prog u = .ok (.enter 59 args) u:=fun _ _=>by kernel_rfl
       go_wp2_with fail
       refine upon_method (f:=59) (v:=.agg #[]) (by kernel_rfl) ?_
       rw [he]
       go_wp2_with fail
       refine Calls.mono (hpl.out _) ?_
       rintro e w3 ⟨rfl,b3⟩
       have B3:=hid (B2.out.trans (b3.mono B2.out.size))
       have G3:=hid (G2.out.keptB b3)
       have hbd:=build1Stp (.int .i64 3) (.string ⟨#[]⟩) (.int .i64 0)
       have A4:=hid (At.new w3 #[.int .i64 3,.string ⟨#[]⟩,.int .i64 0] 34)
       have B4:=hid (B3.out.alloc B3.out.size (.cells #[.int .i64 3,.string ⟨#[]⟩,.int .i64 0] 34))
       have G4:=hid (G3.out.keptB ((Below.refl _ w3).alloc (Nat.le_refl _) (.cells #[.int .i64 3,.string ⟨#[]⟩,.int .i64 0] 34)))
       have C4:=hid (show ∀ (j:Nat) (y:Value),(stCs ⟨3,⟨#[]⟩,0⟩)[j]? = some y→(w3.alloc (.cells #[.int .i64 3,.string ⟨#[]⟩,.int .i64 0] 34)).cell? ((⟨w3.heap.size,0,none⟩:Addr).add j)=some y from fun j y hj=>by
        have:=A4.out.cell j
        rw [Addr.add_mid,Nat.zero_add,this]
        simpa [stCs] using hj)
       clear b3 hpl he G3 B3 B2 G2 A4
       go_wp2_with (first | (at_builtin;refine wpList_stp rfl _ _ rfl w.heap.size _ q ⟨3,⟨#[]⟩,0⟩ _ 1 rfl rfl G4.out hnm.out C4.out hql.out B4.out.size ?_;intro v' w' h1 hg1;have G5:=hid h1;have B5:=hid (B4.out.grown hg1 B4.out.size (fun b e=>(G4.out.blk e).1));clear h1 hg1 G4 B4 C4) | fail)
       go_roundw
       case rel=>exact ⟨q++[⟨3,⟨#[]⟩,0⟩],x,Rds.snoc hR.out ha'.out hX.out,hxl.out,rfl,G5,B5⟩
       case measure=>simp [intOf];have:=hax.out;have:=hxl.out;omega
    ·obtain rfl:a=s.size:=by omega
     go_wp2
     refine bodyPost_ret (v:=.tuple #[_,.int .i64 0,.int .i64 0]) (by simp [results,Tryz.results8,go_sem]) rfl ⟨⟨_,q,0,0,rfl,hG.out,.inr ⟨hh.out,.inl ⟨hR.out,rfl,rfl⟩⟩⟩,hB.out⟩
  ·have hh:=hid (show ¬ (0<s.size∧lk s 0=36) from fun h=>h36 h.2)
   rw [e0] at h36
   have c1:(((s[0]'h0).toNat:Int) != 36)=true:=by simp;omega
   clear e0 h36
   go_enter Tryz.func8,Tryz.ntmps8
   go_wp2
   refine bodyPost_ret (v:=.tuple #[.slice none 0 0,.int .i64 220,.int .i64 0]) (by simp [results,Tryz.results8,go_sem]) rfl ⟨⟨.slice none 0 0,[],220,0,rfl,StG.nil _ _,.inl ⟨hh.out,rfl,rfl,rfl⟩⟩,by exact bw⟩
 ·obtain rfl:s=ByteArray.empty:=by
   apply ByteArray.ext
   apply Array.eq_empty_of_size_eq_zero
   have:s.data.size=s.size:=rfl
   omega
  clear h0 hsi
  go_enter Tryz.func8,Tryz.ntmps8
  go_wp2
  refine bodyPost_ret (v:=.tuple #[.slice none 0 0,.int .i64 220,.int .i64 0]) (by simp [results,Tryz.results8,go_sem]) rfl ⟨⟨.slice none 0 0,[],220,0,rfl,StG.nil _ _,.inl ⟨fun h=>absurd h.1 (by decide),rfl,rfl,rfl⟩⟩,by exact bw⟩
end Go.Proofs.YtongedjlmohogaaGreatDoor

namespace Go.Proofs
open Go.Shelf
def Tryz.laysM171_ren:Go.Shelf.Ren:=⟨fun | 171=>32 | 243=>51 | 246=>83 | 283=>99 | 284=>100 | 285=>101 | 286=>102 | 129=>117 | 317=>116 | 318=>118 | 319=>119 | 320=>120 | 337=>135 | 338=>136 | n=>n,fun | 3=>3 | 9=>9 | 2=>2 | 4=>4 | 171=>126 | 0=>0 | 53=>127 | 37=>63 | 5=>5 | 173=>130 | 212=>153 | 51=>154 | 20=>20 | 213=>155 | 46=>116 | 232=>188 | 233=>189 | n=>n,fun | 17=>2 | 18=>3 | 19=>4 | n=>n⟩
theorem Tryz.laysM171:Go.Proofs.LaysM.n171 Tryz.prog Tryz.laysM171_ren:={
  mixed:=by kernel_rfl
  f129:=Tryz.func117.trans (congrArg some (by kernel_rfl))
  f171:=Tryz.func32.trans (congrArg some (by kernel_rfl))
  f243:=Tryz.func51.trans (congrArg some (by kernel_rfl))
  f246:=Tryz.func83.trans (congrArg some (by kernel_rfl))
  f283:=Tryz.func99.trans (congrArg some (by kernel_rfl))
  f284:=Tryz.func100.trans (congrArg some (by kernel_rfl))
  f285:=Tryz.func101.trans (congrArg some (by kernel_rfl))
  f286:=Tryz.func102.trans (congrArg some (by kernel_rfl))
  f317:=Tryz.func116.trans (congrArg some (by kernel_rfl))
  f318:=Tryz.func118.trans (congrArg some (by kernel_rfl))
  f319:=Tryz.func119.trans (congrArg some (by kernel_rfl))
  f320:=Tryz.func120.trans (congrArg some (by kernel_rfl))
  f337:=Tryz.func135.trans (congrArg some (by kernel_rfl))
  f338:=Tryz.func136.trans (congrArg some (by kernel_rfl))
  t0:=Tryz.underlying0
  a0:=Tryz.isAgg0
  z0:=Tryz.sizeOf0
  v0:=Tryz.zeroValue0
  t2:=Tryz.underlying2
  a2:=Tryz.isAgg2
  z2:=Tryz.sizeOf2
  v2:=Tryz.zeroValue2
  t3:=Tryz.underlying3
  a3:=Tryz.isAgg3
  z3:=Tryz.sizeOf3
  v3:=Tryz.zeroValue3
  t4:=Tryz.underlying4
  a4:=Tryz.isAgg4
  z4:=Tryz.sizeOf4
  v4:=Tryz.zeroValue4
  t5:=Tryz.underlying5
  a5:=Tryz.isAgg5
  z5:=Tryz.sizeOf5
  v5:=Tryz.zeroValue5
  t9:=Tryz.underlying9
  a9:=Tryz.isAgg9
  z9:=Tryz.sizeOf9
  v9:=Tryz.zeroValue9
  t20:=Tryz.underlying20
  a20:=Tryz.isAgg20
  z20:=Tryz.sizeOf20
  v20:=Tryz.zeroValue20
  t37:=Tryz.underlying63
  a37:=Tryz.isAgg63
  z37:=Tryz.sizeOf63
  v37:=Tryz.zeroValue63
  t46:=Tryz.underlying116
  a46:=Tryz.isAgg116
  z46:=Tryz.sizeOf116
  v46:=Tryz.zeroValue116
  t51:=Tryz.underlying154
  a51:=Tryz.isAgg154
  z51:=Tryz.sizeOf154
  v51:=Tryz.zeroValue154
  t53:=Tryz.underlying127
  a53:=Tryz.isAgg127
  z53:=Tryz.sizeOf127
  v53:=Tryz.zeroValue127
  t171:=Tryz.underlying126
  a171:=Tryz.isAgg126
  z171:=Tryz.sizeOf126
  v171:=Tryz.zeroValue126
  t173:=Tryz.underlying130
  a173:=Tryz.isAgg130
  z173:=Tryz.sizeOf130
  v173:=Tryz.zeroValue130
  t212:=Tryz.underlying153
  a212:=Tryz.isAgg153
  z212:=Tryz.sizeOf153
  v212:=Tryz.zeroValue153
  t213:=Tryz.underlying155
  a213:=Tryz.isAgg155
  z213:=Tryz.sizeOf155
  t232:=Tryz.underlying188
  a232:=Tryz.isAgg188
  z232:=Tryz.sizeOf188
  v232:=Tryz.zeroValue188
  t233:=Tryz.underlying189
  a233:=Tryz.isAgg189
  z233:=Tryz.sizeOf189
  v233:=Tryz.zeroValue189
  g17:=by kernel_rfl
  g18:=by kernel_rfl
  g19:=by kernel_rfl
  i0:=by kernel_rfl
  i2:=by kernel_rfl
  i3:=by kernel_rfl
  i4:=by kernel_rfl
  i5:=by kernel_rfl
  i9:=by kernel_rfl
  i20:=by kernel_rfl
  i37:=by kernel_rfl
  i46:=by kernel_rfl
  i51:=by kernel_rfl
  i53:=by kernel_rfl
  i171:=by kernel_rfl
  i173:=by kernel_rfl
  i212:=by kernel_rfl
  i232:=by kernel_rfl
  i233:=by kernel_rfl
  m17:=by kernel_rfl
  m18:=by kernel_rfl
  m19:=by kernel_rfl }
end Go.Proofs

namespace Go.Proofs.YtongedjlmohogaaGreatDoor
open Go.RowKit Go.Shelf
abbrev powNm:String:=Rows.pathParsesRow.named.getD 2 default
def PowT (w:World):Prop:=Lib.TabIs Tryz.prog w powNm .u64 Lib.pow10Tab
theorem gPowN:(Tryz.prog.globalNamed powNm).isSome=true:=by kernel_rfl
theorem PowT.kept {w w':World} (h:PowT w) (hb:Below w.heap.size w w'):PowT w':=by
 obtain ⟨g,hg⟩:=Option.isSome_iff_exists.1 gPowN
 unfold PowT Lib.TabIs World.var? at h ⊢
 rw [hg] at h ⊢
 simp only [Option.bind_some] at h ⊢
 cases ho:w.heap[g]? with
 | none=>rw [ho] at h;cases h
 | some o =>
  have hlt:g<w.heap.size:=(Array.getElem?_eq_some_iff.1 ho).1
  rw [hb.block g hlt]
  exact h
theorem itoa_calls (x:Int) (h0:-9223372036854775808≤x) (h1:x≤9223372036854775807) (w:World) (hT:PowT w) :
  Calls Tryz.prog 32 #[.int .i64 x] w fun e w'=>e = .returned (.string ⟨(Lib.itoa x).toArray⟩)∧Below w.heap.size w w':=by
 refine Calls.mono (show Calls Tryz.prog 32 #[.int .i64 x] w fun e w'=>e = .returned (.string ⟨(Lib.itoa x).toArray⟩)∧∃ k os,w'=Sort.grow (w.drewN k) os from Any.strconv_Itoa Tryz.laysM171 x h0 h1 w hT) ?_
 rintro e w' ⟨rfl,k,os,rfl⟩
 exact ⟨rfl,Lib.below_grow _ w (Nat.le_refl _) k os⟩
end Go.Proofs.YtongedjlmohogaaGreatDoor

namespace Go.Proofs.YtongedjlmohogaaGreatDoor
open Go.RowKit Go.Shelf
theorem wrS22_len (s:ByteArray):(wrS s).1.size≤6*s.size:=by
 unfold wrS
 split
 ·exact Nat.zero_le _
 ·have h:=wrI_len s s.size
  unfold wrI at h
  rw [show (byts s).take s.size=byts s by rw [← byts_length s];exact List.take_length] at h
  exact h
def IsWr (s:Stp) (T:ByteArray):Prop :=
 (s.kind=1∧∃ n,IsWd s.name n∧(((0<n∧n=s.name.size)∧T=⟨#[46]⟩++s.name)∨(¬ (0<n∧n=s.name.size)∧T=(⟨#[91,34]⟩++(wrS s.name).1)++⟨#[34,93]⟩))) ∨
 (s.kind=2∧T=(⟨#[91]⟩++⟨(Lib.itoa s.place).toArray⟩)++⟨#[93]⟩)∨((s.kind≠1∧s.kind≠2)∧T=⟨#[46,42]⟩)
set_option maxRecDepth 10000 in
set_option maxHeartbeats 8000000 in
theorem written22_calls (s:Stp) (hs:s.name.size≤4294967296) (hp:-9223372036854775808≤s.place∧s.place≤9223372036854775807) (w:World) (hPw:Hid (PowT w)):Calls Tryz.prog 29 #[ifV s] w fun e w'=>(∃ T,e = .returned (.string T)∧IsWr s T)∧Below w.heap.size w w':=by
 obtain ⟨k,nm,pl⟩:=s
 dsimp only at hs hp
 by_cases h1:k=1
 ·subst h1
  have a1:=asB_B nm
  obtain ⟨n,hn⟩:=wd_ex nm
  have hn':=hid hn
  have hle:=hn.1
  have hw:=hid (fun u=>word22_calls nm (by omega) n hn' u)
  show Calls Tryz.prog 29 #[.iface 85 (.string nm)] w _
  by_cases hc:0<n∧n=nm.size
  ·obtain ⟨h0,hz⟩:=hc
   have hc':=hid (And.intro h0 hz)
   have h0i:(0:Int)<(n:Int):=by omega
   have hzi:((n:Int) == (nm.size:Int))=true:=by simp [hz]
   clear hn hle hz
   go_enter Tryz.func29,Tryz.ntmps29
   go_wp2_with fail
   refine Calls.mono (hw.out _) ?_
   rintro e w1 ⟨rfl,b1⟩
   have B1:=hid b1
   clear b1 hw
   go_wp2_with fail
   go_ret
   exact ⟨⟨_,rfl,.inl ⟨rfl,n,hn'.out,.inl ⟨hc'.out,rfl⟩⟩⟩,B1.out⟩
  ·have hc':=hid hc
   obtain ⟨T,E,hU⟩:∃ T E,wrS nm=(T,E):=⟨_,_,rfl⟩
   have hU':=hid hU
   have he:=hid (fun u=>es_calls nm hs T E hU' u trivial)
   have hT6:T.size≤6*nm.size:=by have:=wrS22_len nm;rw [hU] at this;exact this
   have q1:¬ 9223372036854775807<2+T.size:=by omega
   have q2:¬ 9223372036854775807<2+T.size+2:=by omega
   clear hn hU hT6
   by_cases h0:0<n
   ·have h0i:(0:Int)<(n:Int):=by omega
    have hzi:((n:Int) == (nm.size:Int))=false:=beq_eq_false_iff_ne.2 (by omega)
    clear hc hle
    go_enter Tryz.func29,Tryz.ntmps29
    go_wp2_with fail
    refine Calls.mono (hw.out _) ?_
    rintro e w1 ⟨rfl,b1⟩
    have B1:=hid b1
    clear b1 hw
    go_wp2_with fail
    refine Calls.mono (he.out _) ?_
    rintro e w2 ⟨rfl,b2⟩
    have B2:=hid (B1.out.trans (b2.mono B1.out.size))
    clear b2 he
    go_wp2_with fail
    go_ret
    exact ⟨⟨_,rfl,.inl ⟨rfl,n,hn'.out,.inr ⟨hc'.out,by rw [hU'.out]⟩⟩⟩,B2.out⟩
   ·have h0i:decide ((0:Int)<(n:Int))=false:=decide_eq_false (by omega)
    have h00:n=0:=by omega
    clear hc hle h0
    go_enter Tryz.func29,Tryz.ntmps29
    go_wp2_with fail
    refine Calls.mono (hw.out _) ?_
    rintro e w1 ⟨rfl,b1⟩
    have B1:=hid b1
    clear b1 hw
    go_wp2_with fail
    refine Calls.mono (he.out _) ?_
    rintro e w2 ⟨rfl,b2⟩
    have B2:=hid (B1.out.trans (b2.mono B1.out.size))
    clear b2 he
    go_wp2_with fail
    go_ret
    exact ⟨⟨_,rfl,.inl ⟨rfl,n,hn'.out,.inr ⟨hc'.out,by rw [hU'.out]⟩⟩⟩,B2.out⟩
 ·by_cases h2:k=2
  ·subst h2
   have a1:=asP_B pl
   have a2:=asP_P pl
   have hi:=hid (fun u (h:PowT u)=>itoa_calls pl hp.1 hp.2 u h)
   have hil:=Lib.itoa_length_le pl hp.1 hp.2
   generalize hI:Lib.itoa pl=I at hi hil
   have hI':=hid hI
   have hs2:(⟨I.toArray⟩:ByteArray).size≤21:=by show I.toArray.size≤21;simpa using hil
   generalize hIT:(⟨I.toArray⟩:ByteArray)=T at hi hs2
   have hIT':=hid hIT
   have q1:¬ 9223372036854775807<1+T.size:=by omega
   have q2:¬ 9223372036854775807<1+T.size+1:=by omega
   clear hI hIT hil hs2
   show Calls Tryz.prog 29 #[.iface 87 (.int .i64 pl)] w _
   clear hp h1
   go_enter Tryz.func29,Tryz.ntmps29
   go_wp2_with fail
   refine Calls.mono (hi.out _ hPw.out) ?_
   rintro e w1 ⟨rfl,b1⟩
   have B1:=hid b1
   clear b1 hi
   go_wp2_with fail
   go_ret
   exact ⟨⟨_,rfl,.inr (.inl ⟨rfl,by rw [hI'.out,hIT'.out]⟩)⟩,B1.out⟩
  ·have hk:=hid (And.intro h1 h2)
   by_cases h3:k=3
   ·subst h3
    have a1:=asE_B
    have a2:=asE_P
    show Calls Tryz.prog 29 #[.iface 89 (.agg #[])] w _
    clear h1 h2
    go_enter Tryz.func29,Tryz.ntmps29
    go_wp2_with fail
    go_ret
    exact ⟨⟨_,rfl,.inr (.inr ⟨hk.out,rfl⟩)⟩,by exact bw⟩
   ·have a1:=asN_B
    have a2:=asN_P
    have e:ifV ⟨k,nm,pl⟩ = .nilIface:=by unfold ifV;rw [if_neg h1,if_neg h2,if_neg h3]
    rw [e]
    clear e h1 h2 h3
    go_enter Tryz.func29,Tryz.ntmps29
    go_wp2_with fail
    go_ret
    exact ⟨⟨_,rfl,.inr (.inr ⟨hk.out,rfl⟩)⟩,by exact bw⟩
end Go.Proofs.YtongedjlmohogaaGreatDoor

namespace Go.Proofs.YtongedjlmohogaaGreatDoor
def mnL:List UInt8→Option (List UInt8)
 | []=>some []
 | c :: t =>
  if c=126 then
   match t with
   | []=>none
   | d :: t'=>if d=48 then (mnL t').map (126 :: ·) else if d=49 then (mnL t').map (47 :: ·) else none
  else (mnL t).map (c :: ·)
def cuL:List UInt8→List (List UInt8)
 | []=>[[]]
 | c :: t=>if c=47 then [] :: cuL t else
  match cuL t with
  | a :: r=>(c :: a) :: r
  | []=>[[c]]
theorem cuL_ne:∀ l:List UInt8,∃ a r,cuL l=a :: r
 | []=>⟨_,_,rfl⟩
 | c :: t=>by
  obtain ⟨a,r,h⟩:=cuL_ne t
  unfold cuL
  by_cases hc:c=47
  ·exact ⟨_,_,if_pos hc⟩
  ·rw [if_neg hc,h];exact ⟨_,_,rfl⟩
theorem cuL_sl (t:List UInt8):cuL (47 :: t)=[] :: cuL t:=by rw [cuL,if_pos rfl]
theorem cuL_on {c:UInt8} (hc:c≠47) {t a:List UInt8} {r:List (List UInt8)} (h:cuL t=a :: r):cuL (c :: t)=(c :: a) :: r:=by rw [cuL,if_neg hc,h]
def mnAll:List (List UInt8)→Option (List (List UInt8))
 | []=>some []
 | a :: r=>match mnL a,mnAll r with
  | some x,some y=>some (x :: y)
  | _,_=>none
def ptrL:List UInt8→Option (List (List UInt8))
 | []=>some []
 | c :: t=>if c=47 then mnAll (cuL t) else none
theorem mnL_plain {c:UInt8} (hc:c≠126) (t:List UInt8):mnL (c :: t)=(mnL t).map (c :: ·):=by rw [mnL.eq_def];simp only [hc,if_false]
theorem mnL_none:mnL [126]=none:=by rw [mnL.eq_def];rfl
theorem mnL_til (d:UInt8) (t:List UInt8):mnL (126 :: d :: t)=if d=48 then (mnL t).map (126 :: ·) else if d=49 then (mnL t).map (47 :: ·) else none:=by rw [mnL.eq_def];rfl
def addN (out:List (List UInt8)) (c:UInt8):List (List UInt8):=out.dropLast++[out.getLastD []++[c]]
theorem addN_on (out:List (List UInt8)) (a:List UInt8) (c:UInt8):addN (out++[a]) c=out++[a++[c]]:=by simp [addN]
def rfL:List (List UInt8)→List UInt8→Option (List (List UInt8))
 | out,[]=>some out
 | out,c :: t =>
  if c=47 then rfL (out++[[]]) t
  else if c=126 then
   match t with
   | []=>none
   | d :: t'=>if d=48 then rfL (addN out 126) t' else if d=49 then rfL (addN out 47) t' else none
  else rfL (addN out c) t
theorem rfL_sl (out:List (List UInt8)) (t:List UInt8):rfL out (47 :: t)=rfL (out++[[]]) t:=by rw [rfL.eq_def];rfl
theorem rfL_plain {c:UInt8} (h1:c≠47) (h2:c≠126) (out:List (List UInt8)) (t:List UInt8):rfL out (c :: t)=rfL (addN out c) t:=by rw [rfL.eq_def];simp only [h1,h2,if_false]
theorem rfL_none (out:List (List UInt8)):rfL out [126]=none:=by rw [rfL.eq_def];rfl
theorem rfL_til (out:List (List UInt8)) (d:UInt8) (t:List UInt8):rfL out (126 :: d :: t)=if d=48 then rfL (addN out 126) t else if d=49 then rfL (addN out 47) t else none:=by rw [rfL.eq_def];rfl
def joinN (out:List (List UInt8)) (a:List UInt8):List (List UInt8)→List (List UInt8)
 | []=>out++[a]
 | x :: r=>out++(a++x) :: r
theorem rfL_on:∀ (n:Nat) (l:List UInt8),l.length≤n→∀ (out:List (List UInt8)) (a:List UInt8),rfL (out++[a]) l=(mnAll (cuL l)).map (joinN out a):=by
 intro n
 induction n with
 | zero =>
  intro l hl out a
  obtain rfl:l=[]:=List.length_eq_zero_iff.1 (by omega)
  rw [rfL]
  simp [cuL,mnAll,mnL,joinN]
 | succ n ih =>
  intro l hl out a
  cases l with
  | nil=>rw [rfL];simp [cuL,mnAll,mnL,joinN]
  | cons c t =>
   have ht:t.length≤n:=by simp at hl;omega
   by_cases hc:c=47
   ·subst hc
    rw [rfL_sl,ih t ht (out++[a]) [],cuL_sl]
    obtain ⟨x,r,hx⟩:=cuL_ne t
    rw [hx,show mnAll ([] :: x :: r)=(mnAll (x :: r)).map ([] :: ·) by
     rw [mnAll]
     rw [show mnL []=some [] from rfl]
     cases mnAll (x :: r) <;> rfl]
    cases hm:mnAll (x :: r) with
    | none=>rfl
    | some q =>
     cases q with
     | nil =>
      exfalso
      rw [mnAll] at hm
      cases h1:mnL x <;> cases h2:mnAll r <;> rw [h1,h2] at hm <;> simp at hm
     | cons y z=>simp [joinN]
   ·by_cases hc2:c=126
    ·subst hc2
     cases t with
     | nil =>
      rw [rfL_none,cuL_on (by decide) (show cuL []=[] :: [] from rfl),mnAll,mnL_none]
      rfl
     | cons d t =>
      have ht':t.length≤n:=by simp at ht;omega
      rw [rfL_til]
      obtain ⟨x,r,hx⟩:=cuL_ne t
      by_cases h1:d=48
      ·subst h1
       rw [if_pos rfl,addN_on,ih t ht',cuL_on (by decide) (cuL_on (by decide) hx),hx,mnAll,mnAll,mnL_til,if_pos rfl]
       cases mnL x <;> cases mnAll r <;> simp [joinN]
      ·by_cases h2:d=49
       ·subst h2
        rw [if_neg h1,if_pos rfl,addN_on,ih t ht',cuL_on (by decide) (cuL_on (by decide) hx),hx,mnAll,mnAll,mnL_til,if_neg (by decide),if_pos rfl]
        cases mnL x <;> cases mnAll r <;> simp [joinN]
       ·rw [if_neg h1,if_neg h2]
        by_cases h3:d=47
        ·subst h3
         rw [cuL_on (by decide) (cuL_sl t),mnAll,mnL_none]
         rfl
        ·rw [cuL_on (by decide) (cuL_on h3 hx),mnAll,mnL_til,if_neg h1,if_neg h2]
         rfl
    ·rw [rfL_plain hc hc2,addN_on,ih t ht]
     obtain ⟨x,r,hx⟩:=cuL_ne t
     rw [cuL_on hc hx,hx,mnAll,mnAll,mnL_plain hc2]
     cases mnL x <;> cases mnAll r <;> simp [joinN]
theorem rfL_ptr (l:List UInt8):(∀ c ∈ l.head?,c=47)→rfL [] l=ptrL l:=by
 intro h
 cases l with
 | nil=>rfl
 | cons c t =>
  obtain rfl:c=47:=h c rfl
  rw [rfL_sl,rfL_on t.length t (Nat.le_refl _) [] [],ptrL,if_pos rfl]
  cases hm:mnAll (cuL t) with
  | none=>rfl
  | some q =>
   cases q with
   | nil =>
    obtain ⟨x,r,hx⟩:=cuL_ne t
    rw [hx,mnAll] at hm
    cases h1:mnL x <;> cases h2:mnAll r <;> rw [h1,h2] at hm <;> simp at hm
   | cons y z=>simp [joinN]
def wrN:List UInt8→List UInt8
 | []=>[]
 | c :: t=>if c=126 then 126 :: 48 :: wrN t else if c=47 then 126 :: 49 :: wrN t else c :: wrN t
def wrL:List (List UInt8)→List UInt8
 | []=>[]
 | a :: r=>47 :: (wrN a++wrL r)
theorem cuL_pre:∀ (a:List UInt8),(∀ c ∈ a,c≠47)→∀ t x r,cuL t=x :: r→cuL (a++t)=(a++x) :: r
 | [],_,t,x,r,h=>h
 | c :: a,hn,t,x,r,h=>by
  rw [List.cons_append,cuL_on (hn c (by simp)) (cuL_pre a (fun d hd=>hn d (by simp [hd])) t x r h)]
  rfl
theorem cuL_self (a:List UInt8) (h:∀ c ∈ a,c≠47):cuL a=[a]:=by
 have:=cuL_pre a h [] [] [] rfl
 simpa using this
theorem wrL_app:∀ L M:List (List UInt8),wrL (L++M)=wrL L++wrL M
 | [],M=>rfl
 | a :: L,M=>by rw [List.cons_append,wrL,wrL,wrL_app L M];simp
end Go.Proofs.YtongedjlmohogaaGreatDoor
