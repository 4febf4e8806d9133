/-
  Texts of mine that others lean on, one behind the other.
-/
import Derived.Test.YtongedjlmohogaaGreatDoorPack7
import Derived.Test.YtongedjlmohogaaGreatDoorPack6
import Derived.Test.YtongedjlmohogaaGreatDoorPack12
import Derived.Lib.Bytealg
import Derived.Test.YtongedjlmohogaaGreatDoorPack5
import Derived.Test.YtongedjlmohogaaGreatDoorPack11
import Derived.Recover
/- The reader of package valid in memory;its small functions: look,fail,want,wantOne,blanks. -/
namespace Go.Proofs.YtongedjlmohogaaGreatDoor
open Go.RowKit Go.Shelf
structure RdI (H b:Nat) (s:ByteArray) (d:Int) (i:Nat) (dp:Int) (v:Value) (op:List Nat) (w:World):Prop where
 at_:At w b #[.string s,.int .i64 (i:Int),v,.int .i64 d,.int .i64 dp] 191
 row:w.ownsRow H 5 1 v op.length (opC (shutN op))
 lt:b<H
 le:H≤w.heap.size
 li:i≤s.size
structure Fr (H b:Nat) (w w':World):Prop where
 os:w'.os=w.os
 tape:w'.tape=w.tape
 output:w'.output=w.output
 size:w.heap.size≤w'.heap.size
 block:∀ k,k<H→k≠b→w'.heap[k]? = w.heap[k]?
theorem Fr.refl (H b:Nat) (w:World):Fr H b w w:=⟨rfl,rfl,rfl,Nat.le_refl _,fun _ _ _=>rfl⟩
theorem Fr.trans {H b:Nat} {x y z:World} (h:Fr H b x y) (k:Fr H b y z):Fr H b x z :=
 ⟨k.os.trans h.os,k.tape.trans h.tape,k.output.trans h.output,Nat.le_trans h.size k.size,fun i hi hb=>(k.block i hi hb).trans (h.block i hi hb)⟩
theorem Fr.of_only {H b:Nat} {w w':World} (h:Only b w w'):Fr H b w w':=⟨h.1.os,h.1.tape,h.1.output,h.1.size,fun k _ hk=>h.2.2 k hk⟩
theorem Fr.of_below {H b:Nat} {w w':World} (hH:H≤w.heap.size) (h:Below w.heap.size w w'):Fr H b w w':=⟨h.os,h.tape,h.output,h.size,fun k hk _=>h.block k (by omega)⟩
theorem RdI.kept {H b i:Nat} {s:ByteArray} {d dp:Int} {v:Value} {op:List Nat} {w w':World} (h:RdI H b s d i dp v op w) (hb:Below w.heap.size w w'):RdI H b s d i dp v op w' :=
 ⟨h.at_.keptAll hb,own_below h.row hb,h.lt,by have:=hb.size;have:=h.le;omega,h.li⟩
theorem RdI.fr {H b i:Nat} {s:ByteArray} {d dp:Int} {v:Value} {op:List Nat} {w w':World} (h:RdI H b s d i dp v op w) (hb:Below w.heap.size w w'):Fr H b w w':=Fr.of_below h.le hb
theorem RdI.go {H b i:Nat} {s:ByteArray} {d dp:Int} {v:Value} {op:List Nat} {w:World} (h:RdI H b s d i dp v op w) (j:Nat) (hj:j≤s.size):RdI H b s d j dp v op (w.setCell ⟨b,1,none⟩ (.int .i64 (j:Int))) :=
 ⟨by simpa using h.at_.set 1 (.int .i64 (j:Int)),own_only h.row h.lt ((Only.refl _ _).set _ _),h.lt,by have:=h.le;simpa using this,hj⟩
theorem RdI.step {H b i:Nat} {s:ByteArray} {d dp:Int} {v:Value} {op:List Nat} {w:World} (h:RdI H b s d i dp v op w) (hi:i<s.size):RdI H b s d (i+1) dp v op (w.setCell ⟨b,1,none⟩ (.int .i64 ((i:Int)+1))):=by
 have:=h.go (i+1) hi
 push_cast at this
 exact this
theorem RdI.add {H b i:Nat} {s:ByteArray} {d dp:Int} {v:Value} {op:List Nat} {w:World} (h:RdI H b s d i dp v op w) (g:Nat) (hi:i+g≤s.size):RdI H b s d (i+g) dp v op (w.setCell ⟨b,1,none⟩ (.int .i64 ((i:Int)+(g:Int)))):=by
 have:=h.go (i+g) hi
 push_cast at this
 exact this
def atN (b:Nat) (w:World):Nat:=match w.cell? ⟨b,1,none⟩ with
 | some (.int _ n)=>n.toNat
 | _=>0
theorem RdI.frs {H b i:Nat} {s:ByteArray} {d dp:Int} {v:Value} {op:List Nat} {w:World} (_:RdI H b s d i dp v op w) (k:Nat) (x:Value):Fr H b w (w.setCell ⟨b,k,none⟩ x):=Fr.of_only ((Only.refl _ _).set _ _)
theorem RdI.c0 {H b i:Nat} {s:ByteArray} {d dp:Int} {v:Value} {op:List Nat} {w:World} (h:RdI H b s d i dp v op w):w.cell? ⟨b,0,none⟩=some (.string s):=h.at_.cell 0
theorem RdI.c1 {H b i:Nat} {s:ByteArray} {d dp:Int} {v:Value} {op:List Nat} {w:World} (h:RdI H b s d i dp v op w):w.cell? ⟨b,1,none⟩=some (.int .i64 (i:Int)):=h.at_.cell 1
theorem RdI.c2 {H b i:Nat} {s:ByteArray} {d dp:Int} {v:Value} {op:List Nat} {w:World} (h:RdI H b s d i dp v op w):w.cell? ⟨b,2,none⟩=some v:=h.at_.cell 2
theorem RdI.c3 {H b i:Nat} {s:ByteArray} {d dp:Int} {v:Value} {op:List Nat} {w:World} (h:RdI H b s d i dp v op w):w.cell? ⟨b,3,none⟩=some (.int .i64 d):=h.at_.cell 3
theorem RdI.c4 {H b i:Nat} {s:ByteArray} {d dp:Int} {v:Value} {op:List Nat} {w:World} (h:RdI H b s d i dp v op w):w.cell? ⟨b,4,none⟩=some (.int .i64 dp):=h.at_.cell 4
theorem RdI.atN {H b i:Nat} {s:ByteArray} {d dp:Int} {v:Value} {op:List Nat} {w:World} (h:RdI H b s d i dp v op w):atN b w=i:=by
 unfold Go.Proofs.YtongedjlmohogaaGreatDoor.atN
 rw [h.c1]
 simp
theorem RdI.f1 {H b i:Nat} {s:ByteArray} {d dp:Int} {v:Value} {op:List Nat} {w:World} (h:RdI H b s d i dp v op w):w.frozen? ⟨b,1,none⟩=false:=h.at_.frozen 1
def faultE (k:Nat):Ending:=.panicked [{ v:=.iface 202 (.agg #[.int .i64 (k:Int)]),recovered:=false }]
def Got (H b:Nat) (s:ByteArray) (d dp:Int) (v:Value) (op:List Nat) (P:Nat→Prop) (w:World) (e:Ending) (w':World):Prop :=
 (∃ j,e = .returned (.tuple #[])∧RdI H b s d j dp v op w'∧Fr H b w w'∧P j)∨(∃ k,e=faultE k∧BadAt s k∧Fr H b w w')
set_option maxRecDepth 10000 in
set_option maxHeartbeats 1000000 in
theorem lookR_calls (H b:Nat) (s:ByteArray) (d:Int) (i:Nat) (dp:Int) (v:Value) (op:List Nat) (w:World) (hR:RdI H b s d i dp v op w) (_hs:s.size≤8388608) :
  Calls Tryz.prog 185 #[.pointer (some ⟨b,0,none⟩)] w fun e w'=>e = .returned (.int .u8 ((byteAt s i:Nat):Int))∧Below w.heap.size w w':=by
 have c0:=hR.c0
 have c1:=hR.c1
 clear hR
 by_cases hin:i<s.size
 ·have e1:decide ((i:Int)<(s.size:Int))=true:=by simp;omega
  obtain ⟨x,hx⟩:∃ x:UInt8,s[i]'hin=x:=⟨_,rfl⟩
  have hB:byteAt s i=x.toNat:=by rw [← lk_byteAt,lk_at s i hin,hx]
  rw [hB]
  clear hB
  go_enter Tryz.func185,Tryz.ntmps185
  go_wp2
  go_region
  go_wp2
  go_region
  go_wp2
  go_ret
  exact ⟨rfl,by exact bw⟩
 ·have e1:decide ((i:Int)<(s.size:Int))=false:=by simp;omega
  rw [byteAt_out s i (by omega)]
  go_enter Tryz.func185,Tryz.ntmps185
  go_wp2
  go_region
  go_wp2
  go_ret
  exact ⟨rfl,by exact bw⟩
set_option maxRecDepth 10000 in
theorem fail_calls (H b:Nat) (s:ByteArray) (d:Int) (i:Nat) (dp:Int) (v:Value) (op:List Nat) (w:World) (hR:RdI H b s d i dp v op w) :
  Calls Tryz.prog 169 #[.pointer (some ⟨b,0,none⟩)] w fun e w'=>e=faultE i∧w'=w:=by
 have c1:=hR.c1
 clear hR
 go_enter Tryz.func169,Tryz.ntmps169
 go_wp2
 exact ⟨rfl,rfl,rfl⟩
set_option maxRecDepth 10000 in
set_option maxHeartbeats 1000000 in
theorem want_ok (H b:Nat) (s:ByteArray) (d:Int) (i:Nat) (dp:Int) (v:Value) (op:List Nat) (w:World) (hR:RdI H b s d i dp v op w) (hs:s.size≤8388608) (x:Nat) (hx:Hid (byteAt s i=x)) (hx0:x≠0) :
  Calls Tryz.prog 183 #[.pointer (some ⟨b,0,none⟩),.int .u8 (x:Int)] w fun e w'=>e = .returned (.tuple #[])∧RdI H b s d (i+1) dp v op w'∧Fr H b w w':=by
 have hi:i<s.size:=byteAt_in (by rw [hx.out];exact hx0)
 have hl:=hid (lookR_calls H b s d i dp v op w hR hs)
 rw [hx.out] at hl
 have hR':=hid hR
 clear hR hx hx0
 go_enter Tryz.func183,Tryz.ntmps183
 go_wp2_with fail
 refine Calls.mono hl.out ?_
 rintro e w1 ⟨rfl,hb⟩
 have hR1:=hid (hR'.out.kept hb)
 have hF1:=hid (hR'.out.fr hb)
 clear hl hb hR'
 have c1:=hR1.out.c1
 have f1:=hR1.out.f1
 go_wp2
 go_end0
 exact ⟨rfl,hR1.out.step hi,hF1.out.trans (hR1.out.frs _ _)⟩
set_option maxRecDepth 10000 in
set_option maxHeartbeats 1000000 in
theorem want_no (H b:Nat) (s:ByteArray) (d:Int) (i:Nat) (dp:Int) (v:Value) (op:List Nat) (w:World) (hR:RdI H b s d i dp v op w) (hs:s.size≤8388608) (x:Nat) (hx:Hid (byteAt s i≠x)) :
  Calls Tryz.prog 183 #[.pointer (some ⟨b,0,none⟩),.int .u8 (x:Int)] w fun e w'=>e=faultE i∧Fr H b w w':=by
 have hl:=hid (lookR_calls H b s d i dp v op w hR hs)
 have e1:((byteAt s i:Int) == (x:Int))=false:=by have:=hx.out;simp;omega
 have hR':=hid hR
 clear hR hx
 generalize byteAt s i=y at hl e1
 go_enter Tryz.func183,Tryz.ntmps183
 go_wp2_with fail
 refine Calls.mono hl.out ?_
 rintro e w1 ⟨rfl,hb⟩
 have hf:=hid (fail_calls H b s d i dp v op w1 (hR'.out.kept hb))
 have hF1:=hid (hR'.out.fr hb)
 clear hl hb hR'
 go_wp2_with fail
 refine Calls.mono hf.out ?_
 rintro e w2 ⟨rfl,hw⟩
 rw [hw,faultE]
 go_wp2
 exact ⟨rfl,rfl,hF1.out⟩
end Go.Proofs.YtongedjlmohogaaGreatDoor
/- The reader of package valid: blanks,wantOne,word. -/
namespace Go.Proofs.YtongedjlmohogaaGreatDoor
open Go.RowKit Go.Shelf
set_option maxRecDepth 10000 in
set_option maxHeartbeats 1000000 in
theorem blanks_calls (H b:Nat) (s:ByteArray) (d:Int) (i:Nat) (dp:Int) (v:Value) (op:List Nat) (w:World) (hR:RdI H b s d i dp v op w) (hs:s.size≤8388608) (j:Nat) (hj:Hid (IsSkip s i j)) :
  Calls Tryz.prog 168 #[.pointer (some ⟨b,0,none⟩)] w fun e w'=>e = .returned (.tuple #[])∧RdI H b s d j dp v op w'∧Fr H b w w':=by
 have hlk:=hid (fun (q:Nat) (u:World) (h:RdI H b s d q dp v op u)=>lookR_calls H b s d q dp v op u h hs)
 have hR':=hid hR
 have hij:i≤j:=hj.out.1
 have hjs:j≤s.size:=hj.out.2.1
 clear hR
 go_enter Tryz.func168,Tryz.ntmps168
 go_wp2_with fail
 refine Calls.mono (hlk.out i w hR'.out) ?_
 rintro e w1 ⟨rfl,hb⟩
 have hR1:=hid (hR'.out.kept hb)
 have hF1:=hid (hR'.out.fr hb)
 clear hb hR'
 go_wp2_with fail
 go_loopw [2] (fun x wr=>∃ q:Nat,i≤q∧q≤j∧x = .int .u8 ((byteAt s q:Nat):Int)∧Hid (RdI H b s d q dp v op wr∧Fr H b w wr)) (fun _ wr=>j-atN b wr)
 case atStart=>exact ⟨i,Nat.le_refl _,hij,rfl,hR1.out,hF1.out⟩
 case round =>
  obtain ⟨q,hq1,hq2,rfl,hI⟩:=hrel
  have hat:=hid hI.out.1.atN
  by_cases hin:q<j
  ·have hbl:=of_decide_eq_true (hj.out.2.2.1 q hq1 hin)
   have hqs:q<s.size:=by omega
   have hst:=hid (hI.out.1.step hqs)
   have hfr:=hid (hI.out.2.trans (hI.out.1.frs 1 (.int .i64 ((q:Int)+1))))
   have c1:=hI.out.1.c1
   have f1:=hI.out.1.f1
   have hnx:=hid (hlk.out (q+1) _ hst.out)
   clear hI
   rcases hbl with h | h | h | h <;>
   (rw [h]
    clear h
    go_wp2_with fail
    refine Calls.mono hnx.out ?_
    rintro e w2 ⟨rfl,hb⟩
    have hR2:=hid (hst.out.kept hb)
    have hF2:=hid (hfr.out.trans (hst.out.fr hb))
    clear hb hnx hst hfr c1 f1
    go_wp2_with fail
    go_round
    case rel=>exact ⟨q+1,by omega,by omega,rfl,hR2.out,hF2.out⟩
    case measure=>rw [hR2.out.atN,hat.out];omega)
  ·obtain rfl:j=q:=by omega
   have hnb:blankN (byteAt s j)=false:=skip_not hj.out
   have hbl:=of_decide_eq_false hnb
   have e1:((byteAt s j:Int) == 32)=false:=by simp;omega
   have e2:((byteAt s j:Int) == 9)=false:=by simp;omega
   have e3:((byteAt s j:Int) == 10)=false:=by simp;omega
   have e4:((byteAt s j:Int) == 13)=false:=by simp;omega
   clear hbl hnb hat hlk
   generalize byteAt s j=y at e1 e2 e3 e4
   go_wp2
   go_end0
   exact ⟨rfl,hI.out.1,hI.out.2⟩
theorem idx_neg (l:List UInt8) (c:UInt8):Lib.indexByte l c<0 ↔ c ∉ l:=by
 induction l with
 | nil=>simp [Lib.indexByte]
 | cons a l ih =>
  have hge:=Lib.indexByte_ge l c
  unfold Lib.indexByte
  by_cases h:a=c
  ·subst h;simp
  ·have h':¬ (c=a):=fun e=>h e.symm
   simp only [beq_iff_eq,h,if_false,List.mem_cons,h',false_or]
   rw [← ih]
   split
   ·rename_i e;omega
   ·rename_i e;omega
theorem mem_ofNat (l:List UInt8) (n:Nat) (hn:n<256):n.toUInt8 ∈ l ↔ n ∈ l.map UInt8.toNat:=by
 rw [List.mem_map]
 constructor
 ·intro h
  exact ⟨_,h,by simp [Nat.mod_eq_of_lt hn]⟩
 ·rintro ⟨x,hx,rfl⟩
  simpa using hx
set_option maxRecDepth 10000 in
theorem idxB_calls (z:ByteArray) (c:Int) (w:World) :
  Calls Tryz.prog 177 #[.string z,.int .u8 c] w fun e w'=>e = .returned (.int .i64 (Lib.indexByte z.data.toList c.toNat.toUInt8))∧w'=w:=by
 go_enter Tryz.func177,Tryz.ntmps177
 go_wp2
 rw [run_callFunc_extern Tryz.func197 (by kernel_rfl) (by kernel_rfl) (by kernel_rfl) (e:=Extern.BytealgIndexByte.indexByte) (by kernel_rfl),Lib.run_indexByteString]
 simp only [Result.andThen]
 rw [Oper.upon_value]
 go_wp2
 go_ret
 exact ⟨rfl,rfl⟩
set_option maxRecDepth 10000 in
theorem idxS_calls (z:ByteArray) (c:Int) (w:World) :
  Calls Tryz.prog 215 #[.string z,.int .u8 c] w fun e w'=>e = .returned (.int .i64 (Lib.indexByte z.data.toList c.toNat.toUInt8))∧w'=w:=by
 have h:=hid (idxB_calls z c w)
 generalize Lib.indexByte z.data.toList c.toNat.toUInt8=n at h ⊢
 go_enter Tryz.func215,Tryz.ntmps215
 go_wp2_with fail
 refine Calls.mono h.out ?_
 rintro e w1 ⟨rfl,hw⟩
 rw [hw]
 clear hw h
 go_wp2
 go_ret
 exact ⟨rfl,rfl⟩
set_option maxRecDepth 10000 in
set_option maxHeartbeats 1000000 in
theorem wantOne_ok (H b:Nat) (s:ByteArray) (d:Int) (i:Nat) (dp:Int) (v:Value) (op:List Nat) (w:World) (hR:RdI H b s d i dp v op w) (hs:s.size≤8388608) (z:ByteArray) (hi:i<s.size) (hx:Hid (byteAt s i ∈ z.data.toList.map UInt8.toNat)) :
  Calls Tryz.prog 213 #[.pointer (some ⟨b,0,none⟩),.string z] w fun e w'=>e = .returned (.tuple #[])∧RdI H b s d (i+1) dp v op w'∧Fr H b w w':=by
 have hl:=hid (lookR_calls H b s d i dp v op w hR hs)
 obtain ⟨y,hy⟩:∃ y,byteAt s i=y:=⟨_,rfl⟩
 have hy6:y<256:=by rw [← hy];exact byteAt_lt s i
 have hn:0≤Lib.indexByte z.data.toList ((y:Int)).toNat.toUInt8:=by
  have:=(idx_neg z.data.toList y.toUInt8)
  rw [mem_ofNat _ _ hy6,← hy] at this
  have h2:=hx.out
  rw [hy] at this h2
  exact Int.not_lt.mp (fun h=>this.1 h h2)
 rw [hy] at hl
 have hI:=hid (fun u=>idxS_calls z (y:Int) u)
 generalize Lib.indexByte z.data.toList ((y:Int)).toNat.toUInt8=n at hn hI
 have hR':=hid hR
 clear hR hx hy
 go_enter Tryz.func213,Tryz.ntmps213
 go_wp2_with fail
 refine Calls.mono hl.out ?_
 rintro e w1 ⟨rfl,hb⟩
 have hR1:=hid (hR'.out.kept hb)
 have hF1:=hid (hR'.out.fr hb)
 clear hl hb hR'
 go_wp2_with fail
 refine Calls.mono (hI.out _) ?_
 rintro e w2 ⟨rfl,hw⟩
 rw [hw]
 clear hw hI
 have c1:=hR1.out.c1
 have f1:=hR1.out.f1
 have e1:decide (n<0)=false:=by simp;omega
 go_wp2
 go_end0
 exact ⟨rfl,hR1.out.step hi,hF1.out.trans (hR1.out.frs _ _)⟩
set_option maxRecDepth 10000 in
set_option maxHeartbeats 1000000 in
theorem wantOne_no (H b:Nat) (s:ByteArray) (d:Int) (i:Nat) (dp:Int) (v:Value) (op:List Nat) (w:World) (hR:RdI H b s d i dp v op w) (hs:s.size≤8388608) (z:ByteArray) (hx:Hid (byteAt s i ∉ z.data.toList.map UInt8.toNat)) :
  Calls Tryz.prog 213 #[.pointer (some ⟨b,0,none⟩),.string z] w fun e w'=>e=faultE i∧Fr H b w w':=by
 have hl:=hid (lookR_calls H b s d i dp v op w hR hs)
 obtain ⟨y,hy⟩:∃ y,byteAt s i=y:=⟨_,rfl⟩
 have hy6:y<256:=by rw [← hy];exact byteAt_lt s i
 have hn:Lib.indexByte z.data.toList ((y:Int)).toNat.toUInt8<0:=by
  have:=(idx_neg z.data.toList y.toUInt8)
  rw [mem_ofNat _ _ hy6,← hy] at this
  have h2:=hx.out
  rw [hy] at this h2
  exact this.2 h2
 rw [hy] at hl
 have hI:=hid (fun u=>idxS_calls z (y:Int) u)
 generalize Lib.indexByte z.data.toList ((y:Int)).toNat.toUInt8=n at hn hI
 have hR':=hid hR
 clear hR hx hy
 go_enter Tryz.func213,Tryz.ntmps213
 go_wp2_with fail
 refine Calls.mono hl.out ?_
 rintro e w1 ⟨rfl,hb⟩
 have hf:=hid (fail_calls H b s d i dp v op w1 (hR'.out.kept hb))
 have hF1:=hid (hR'.out.fr hb)
 clear hl hb hR'
 go_wp2_with fail
 refine Calls.mono (hI.out _) ?_
 rintro e w2 ⟨rfl,hw⟩
 rw [hw]
 clear hw hI
 have e1:decide (n<0)=true:=by simp;omega
 go_wp2_with fail
 refine Calls.mono hf.out ?_
 rintro e w2 ⟨rfl,hw⟩
 rw [hw,faultE]
 go_wp2
 exact ⟨rfl,rfl,hF1.out⟩
theorem word_ns {s:ByteArray} {i n:Nat} {u:List Nat} (hu:IsWord u) (h:∀ q,q<u.length→byteAt s (i+q)=u.getD q 0) (hn:i+n=i+u.length):Ns s i (i+n):=fun p a b=>by
 obtain ⟨q,rfl⟩:∃ q,p=i+q:=⟨p-i,by omega⟩
 rw [h q (by omega)]
 have hq:q<u.length:=by omega
 rcases hu with rfl | rfl | rfl
 ·have:q=0∨q=1∨q=2∨q=3:=by simp at hq;omega
  rcases this with rfl | rfl | rfl | rfl <;> decide
 ·have:q=0∨q=1∨q=2∨q=3:=by simp at hq;omega
  rcases this with rfl | rfl | rfl | rfl <;> decide
 ·have:q=0∨q=1∨q=2∨q=3∨q=4:=by simp at hq;omega
  rcases this with rfl | rfl | rfl | rfl | rfl <;> decide
set_option maxRecDepth 10000 in
set_option maxHeartbeats 1000000 in
theorem word_calls (H b:Nat) (s:ByteArray) (d:Int) (i:Nat) (dp:Int) (v:Value) (op:List Nat) (w:World) (hR:RdI H b s d i dp v op w) (hs:s.size≤8388608) (z:ByteArray) (hz:Hid (IsWord (byts z))) (m:Mc) (hT:Hid (Tk s i m)) (hV:Hid (Vw s i m)) (h0:Hid (byteAt s i=(byts z).getD 0 0)) :
  Calls Tryz.prog 200 #[.pointer (some ⟨b,0,none⟩),.string z] w fun e w'=>Got H b s d dp v op (fun j=>i<j∧(Fl s i j m.op.length∧Ns s i j)∧∃ k,Tk s j k∧k.op=m.op∧k.st=5) w e w':=by
 have hzs:z.size≤5∧0<z.size:=by
  rw [← byts_length]
  rcases hz.out with h | h | h <;> rw [h] <;> decide
 obtain ⟨hz5,hz0⟩:=hzs
 have hR':=hid hR
 clear hR
 go_enter Tryz.func200,Tryz.ntmps200
 go_wp2_with fail
 go_loopw [7] (fun jj wr=>∃ j:Nat,j≤z.size∧jj = .int .i64 (j:Int)∧Hid (RdI H b s d (i+j) dp v op wr∧Fr H b w wr∧(Fl s i (i+j) m.op.length∧∀ q,q<j→byteAt s (i+q)=(byts z).getD q 0)∧∃ k,Tk s (i+j) k∧InW (byts z) j m k)) (fun jj _=>z.size-(intOf jj).toNat)
 case atStart=>exact ⟨0,Nat.zero_le _,rfl,hR'.out,Fr.refl _ _ _,⟨Fl.nil _ _ _,fun q hq=>by omega⟩,m,hT.out,.inl ⟨rfl,rfl⟩⟩
 case round =>
  obtain ⟨j,hj,rfl,hI⟩:=hrel
  clear hR'
  by_cases hin:j<z.size
  ·have e1:decide ((j:Int)<(z.size:Int))=true:=by simp;omega
   obtain ⟨x,hx⟩:∃ x:UInt8,z[j]'hin=x:=⟨_,rfl⟩
   have hB:Hid ((byts z).getD j 0=x.toNat):=by
    show _=_
    rw [List.getD_eq_getElem?_getD,get_atV z j hin,← lk_byteAt,lk_at z j hin,hx]
    rfl
   by_cases hc:byteAt s (i+j)=x.toNat
   ·have hne:x.toNat≠0:=by
     rw [← hB.out]
     rcases hz.out with h | h | h <;> rw [h] <;> (have hl:=byts_length z;rw [h] at hl;simp at hl)
     ·have:j=0∨j=1∨j=2∨j=3:=by omega
      rcases this with rfl | rfl | rfl | rfl <;> decide
     ·have:j=0∨j=1∨j=2∨j=3:=by omega
      rcases this with rfl | rfl | rfl | rfl <;> decide
     ·have:j=0∨j=1∨j=2∨j=3∨j=4:=by omega
      rcases this with rfl | rfl | rfl | rfl | rfl <;> decide
    have hw:=hid (want_ok H b s d (i+j) dp v op wr hI.out.1 hs x.toNat hc hne)
    have hc':=hid hc
    clear hc hne
    go_wp2_with fail
    refine Calls.mono hw.out ?_
    rintro e w2 ⟨rfl,hR2,hF2⟩
    have hR2':=hid hR2
    have hF2':=hid hF2
    clear hw hR2 hF2
    go_wp2_with fail
    go_round
    case rel =>
     obtain ⟨a1,a2,a3,k,a4,a5⟩:=hI.out
     obtain ⟨k',b1,b2⟩:=InW.go hz.out hV.out a5 a4 (by rw [byts_length];exact hin) (by rw [hB.out];exact hc'.out)
     exact ⟨j+1,by omega,by simp,hR2'.out,a2.trans hF2'.out,⟨a3.1.snoc b1 (by rw [b2.op];exact Nat.le_refl _),fun q hq=>by
      by_cases e:q=j
      ·subst e;rw [hB.out];exact hc'.out
      ·exact a3.2 q (by omega)⟩,k',b1,b2⟩
    case measure=>simp [intOf];omega
   ·have hw:=hid (want_no H b s d (i+j) dp v op wr hI.out.1 hs x.toNat hc)
    have hbad:Hid (BadAt s (i+j)):=by
     obtain ⟨a1,a2,a3,k,a4,a5⟩:=hI.out
     have hj0:0<j:=by
      rcases Nat.eq_zero_or_pos j with rfl | h
      ·exfalso
       apply hc
       rw [← hB.out]
       exact h0.out
      ·exact h
     exact InW.off hj0 a5 a4 (by rw [byts_length];exact hin) (by rw [hB.out];exact hc)
    clear hc
    go_wp2_with fail
    refine Calls.mono hw.out ?_
    rintro e w2 ⟨rfl,hF2⟩
    have hF2':=hid (hI.out.2.1.trans hF2)
    clear hF2 hw
    rw [faultE]
    go_wp2
    exact ⟨rfl,.inr ⟨_,rfl,hbad.out,hF2'.out⟩⟩
  ·have e1:decide ((j:Int)<(z.size:Int))=false:=by simp;omega
   obtain rfl:j=z.size:=by omega
   go_wp2
   go_end0
   obtain ⟨a1,a2,a3,k,a4,a5⟩:=hI.out
   rw [← byts_length z] at a4 a5
   obtain ⟨d1,d2⟩:=InW.done hz.out a5 a4
   rw [byts_length] at a4
   exact .inl ⟨_,rfl,a1,a2,by omega,⟨a3.1,word_ns hz.out (by rw [byts_length];exact a3.2) (by rw [byts_length])⟩,k,a4,d1,d2⟩
end Go.Proofs.YtongedjlmohogaaGreatDoor
/- The reader of package valid: what stands for itself between quotes,escapes,texts. -/
namespace Go.Proofs.YtongedjlmohogaaGreatDoor
open Go.RowKit Go.Shelf
theorem plain_ex (s:ByteArray):∀ (n j:Nat),s.size-j≤n→j≤s.size→∃ k,IsPlain s j k:=by
 intro n
 induction n with
 | zero=>intro j h1 h2;exact ⟨0,by omega,fun q h=>by omega,.inl (by omega)⟩
 | succ n ih =>
  intro j h1 h2
  by_cases hj:j=s.size
  ·exact ⟨0,by omega,fun q h=>by omega,.inl (by omega)⟩
  ·cases hs:plnB (byteAt s j) with
   | false=>exact ⟨0,by omega,fun q h=>by omega,.inr hs⟩
   | true =>
    obtain ⟨k,g1,g2,g3⟩:=ih (j+1) (by omega) (by omega)
    refine ⟨k+1,by omega,fun q hq=>?_,?_⟩
    ·cases q with
     | zero=>exact hs
     | succ q=>have:=g2 q (by omega);rwa [show j+1+q=j+(q+1) by omega] at this
    ·rwa [show j+1+k=j+(k+1) by omega] at g3
theorem from_byte (s:ByteArray) (i q:Nat) (hi:i≤s.size) (hq:q<(s.extract i s.size).size):((s.extract i s.size)[q]'hq).toNat=byteAt s (i+q):=by
 have h1:byteAt (s.extract i s.size) q=((s.extract i s.size)[q]'hq).toNat:=by rw [← lk_byteAt,lk_at _ _ hq]
 rw [← h1]
 have h2:(byts (s.extract i s.size))[q]? = some (byteAt (s.extract i s.size) q):=get_atV _ _ hq
 have hsz:(s.extract i s.size).size=s.size-i:=by rw [ByteArray.size_extract];omega
 rw [byts_extract,List.getElem?_take,if_pos (by omega),List.getElem?_drop,get_atV s (i+q) (by omega)] at h2
 injection h2 with h2
 exact h2.symm
def PlP (s:ByteArray) (i:Nat) (nm:Bool) (op:List Nat) (j:Nat):Prop:=i≤j∧(Fl s i j op.length∧Sq T6 s i j)∧∃ k,Tk s j k∧InT nm op k∧(byteAt s j=34∨byteAt s j=92∨byteAt s j<32)
set_option maxRecDepth 10000 in
set_option maxHeartbeats 2000000 in
theorem plain_calls (H b:Nat) (s:ByteArray) (d:Int) (i:Nat) (dp:Int) (v:Value) (ro op:List Nat) (w:World) (hR:RdI H b s d i dp v ro w) (hs:s.size≤8388608) (nm:Bool) (m:Mc) (hT:Hid (Tk s i m)) (hI:Hid (InT nm op m)) :
  Calls Tryz.prog 207 #[.pointer (some ⟨b,0,none⟩)] w fun e w'=>Got H b s d dp v ro (PlP s i nm op) w e w':=by
 obtain ⟨n,hn⟩:∃ n,Hid (IsPlain s i n):=plain_ex s s.size i (by omega) hR.li
 have hli:=hR.li
 obtain ⟨rest,hrest⟩:∃ r,s.extract i s.size=r:=⟨_,rfl⟩
 obtain ⟨z,hz⟩:∃ z,rest.extract 0 n=z:=⟨_,rfl⟩
 have hrs':rest.size=s.size-i:=by rw [← hrest,ByteArray.size_extract];omega
 have hns:n≤rest.size:=by have:=hn.out.1;omega
 have hrl:rest.size≤8388608:=by omega
 have hnI:(n:Int)≤(rest.size:Int):=by omega
 have hiI:(i:Int)≤(s.size:Int):=by omega
 have hrx:=hid (fun (q:Nat) (hq:q<rest.size)=>show (rest[q]'hq).toNat=byteAt s (i+q) by subst hrest;exact from_byte s i q hli hq)
 have hzb:Hid (byts z=((byts s).drop i).take n):=by
  show _=_
  rw [← hz,← hrest,byts_extract,byts_extract,List.drop_zero,List.take_take]
  congr 1
  omega
 have hzs:z.size≤8388608:=by rw [← hz,ByteArray.size_extract];omega
 have hbad:=hid (fun u=>badF_calls z (by omega) u)
 have hpb:=hid (plain_bad hT.out hI.out hn.out hzb.out)
 have hrs:=hid hrs'
 have hR':=hid hR
 have c0:=hR.c0
 have c1:=hR.c1
 clear hR hzb hT hI hrs'
 go_enter Tryz.func207,Tryz.ntmps207
 go_wp2
 go_region
 have hR1:=hid (hR'.out.kept (w':=w.drew) ((Below.refl _ _).drew))
 have hF1:=hid (hR'.out.fr (w':=w.drew) ((Below.refl _ _).drew))
 clear hR' c0 c1
 generalize w.drew=w1 at hR1 hF1 ⊢
 clear hrest
 go_wp2_with fail
 go_loop [3] (fun nn=>∃ q:Nat,q≤n∧nn = .int .i64 (q:Int)) (fun nn=>n-(intOf nn).toNat)
 case atStart=>exact ⟨0,Nat.zero_le _,rfl⟩
 case round =>
  obtain ⟨q,hq,rfl⟩:=hrel
  by_cases hin:q<n
  ·have hqr:q<rest.size:=by omega
   have hli:(q:Int)<(rest.size:Int):=by omega
   obtain ⟨y,hy⟩:∃ y,byteAt s (i+q)=y:=⟨_,rfl⟩
   have hx:(rest[q]'hqr).toNat=y:=by rw [hrx.out q hqr,hy]
   have hp:=of_decide_eq_true (hn.out.2.1 q hin)
   rw [hy] at hp
   obtain ⟨p1,p2,p3⟩:=hp
   have p1':(32:Int)≤(y:Int):=by omega
   have e3:((y:Int) != 34)=true:=by simp;omega
   have e4:((y:Int) != 92)=true:=by simp;omega
   have e5:¬ (y:Int)=34:=by omega
   have e6:¬ (y:Int)=92:=by omega
   clear hpb hbad hrx p2 p3 hy
   go_wp2
   go_round
   case rel=>exact ⟨q+1,by omega,by simp⟩
   case measure=>simp [intOf];omega
  ·obtain rfl:n=q:=by omega
   have key:Hid ((n=rest.size)∨(∃ (h:n<rest.size) (y:Nat),(rest[n]'h).toNat=y∧(y<32∨y=34∨y=92))):=by
    have:=hrs.out
    rcases hn.out.2.2 with h | h
    ·exact .inl (by omega)
    ·by_cases h2:n<rest.size
     ·right
      refine ⟨h2,_,hrx.out n h2,?_⟩
      have:=of_decide_eq_false h
      omega
     ·exact .inl (by omega)
   have hsn:=hn.out.1
   clear hrx hn hin hq
   have hli2:n≤rest.size:=hns
   rcases key.out with h | ⟨h,y,hx,h' | h' | h'⟩
   ·have e1:(rest.size:Int)≤(n:Int):=by omega
    have e2:rest.size≤n:=by omega
    clear key h
    go_wp2_with fail
    refine Calls.mono (hbad.out _) ?_
    rintro e w2 ⟨rfl,hb⟩
    have hR2:=hid (hR1.out.kept hb)
    have hF2:=hid (hF1.out.trans (hR1.out.fr hb))
    clear hR1 hF1 hb hbad
    have c1:=hR2.out.c1
    have f1:=hR2.out.f1
    rcases hpb.out with ⟨g,g1,g2,g3⟩ | ⟨g2,k,g3,g4,g5,g6⟩
    ·rw [g2]
     have hR3:=hid (hR2.out.add g (by omega))
     have hF3:=hid (hF2.out.trans (hR2.out.frs 1 (.int .i64 ((i:Int)+(g:Int)))))
     have hfl:=hid (fail_calls H b s d (i+g) dp v ro _ hR3.out)
     have g3':=hid g3
     have hgs:i+g≤8388608:=by omega
     clear hpb g2 g3 g1
     go_wp2_with fail
     refine Calls.mono hfl.out ?_
     rintro e w3 ⟨rfl,hw⟩
     rw [hw,faultE]
     go_wp2
     exact ⟨rfl,.inr ⟨_,rfl,g3'.out,hF3.out⟩⟩
    ·rw [g2]
     have hR3:=hid (hR2.out.add n hsn)
     have hF3:=hid (hF2.out.trans (hR2.out.frs 1 (.int .i64 ((i:Int)+(n:Int)))))
     have hG:=hid (show PlP s i nm op (i+n) from ⟨by omega,g5,k,g3,g4,g6⟩)
     clear hpb g2 g3 g4 g5 g6
     go_wp2
     go_end0
     exact .inl ⟨_,rfl,hR3.out,hF3.out,hG.out⟩
   ·have hlt:(n:Int)<(rest.size:Int):=by omega
    have e2:(y:Int)<32:=by omega
    clear key
    go_wp2_with fail
    refine Calls.mono (hbad.out _) ?_
    rintro e w2 ⟨rfl,hb⟩
    have hR2:=hid (hR1.out.kept hb)
    have hF2:=hid (hF1.out.trans (hR1.out.fr hb))
    clear hR1 hF1 hb hbad
    have c1:=hR2.out.c1
    have f1:=hR2.out.f1
    rcases hpb.out with ⟨g,g1,g2,g3⟩ | ⟨g2,k,g3,g4,g5,g6⟩
    ·rw [g2]
     have hR3:=hid (hR2.out.add g (by omega))
     have hF3:=hid (hF2.out.trans (hR2.out.frs 1 (.int .i64 ((i:Int)+(g:Int)))))
     have hfl:=hid (fail_calls H b s d (i+g) dp v ro _ hR3.out)
     have g3':=hid g3
     have hgs:i+g≤8388608:=by omega
     clear hpb g2 g3 g1
     go_wp2_with fail
     refine Calls.mono hfl.out ?_
     rintro e w3 ⟨rfl,hw⟩
     rw [hw,faultE]
     go_wp2
     exact ⟨rfl,.inr ⟨_,rfl,g3'.out,hF3.out⟩⟩
    ·rw [g2]
     have hR3:=hid (hR2.out.add n hsn)
     have hF3:=hid (hF2.out.trans (hR2.out.frs 1 (.int .i64 ((i:Int)+(n:Int)))))
     have hG:=hid (show PlP s i nm op (i+n) from ⟨by omega,g5,k,g3,g4,g6⟩)
     clear hpb g2 g3 g4 g5 g6
     go_wp2
     go_end0
     exact .inl ⟨_,rfl,hR3.out,hF3.out,hG.out⟩
   ·have hlt:(n:Int)<(rest.size:Int):=by omega
    subst h'
    clear key
    go_wp2_with fail
    refine Calls.mono (hbad.out _) ?_
    rintro e w2 ⟨rfl,hb⟩
    have hR2:=hid (hR1.out.kept hb)
    have hF2:=hid (hF1.out.trans (hR1.out.fr hb))
    clear hR1 hF1 hb hbad
    have c1:=hR2.out.c1
    have f1:=hR2.out.f1
    rcases hpb.out with ⟨g,g1,g2,g3⟩ | ⟨g2,k,g3,g4,g5,g6⟩
    ·rw [g2]
     have hR3:=hid (hR2.out.add g (by omega))
     have hF3:=hid (hF2.out.trans (hR2.out.frs 1 (.int .i64 ((i:Int)+(g:Int)))))
     have hfl:=hid (fail_calls H b s d (i+g) dp v ro _ hR3.out)
     have g3':=hid g3
     have hgs:i+g≤8388608:=by omega
     clear hpb g2 g3 g1
     go_wp2_with fail
     refine Calls.mono hfl.out ?_
     rintro e w3 ⟨rfl,hw⟩
     rw [hw,faultE]
     go_wp2
     exact ⟨rfl,.inr ⟨_,rfl,g3'.out,hF3.out⟩⟩
    ·rw [g2]
     have hR3:=hid (hR2.out.add n hsn)
     have hF3:=hid (hF2.out.trans (hR2.out.frs 1 (.int .i64 ((i:Int)+(n:Int)))))
     have hG:=hid (show PlP s i nm op (i+n) from ⟨by omega,g5,k,g3,g4,g6⟩)
     clear hpb g2 g3 g4 g5 g6
     go_wp2
     go_end0
     exact .inl ⟨_,rfl,hR3.out,hF3.out,hG.out⟩
   ·have hlt:(n:Int)<(rest.size:Int):=by omega
    subst h'
    clear key
    go_wp2_with fail
    refine Calls.mono (hbad.out _) ?_
    rintro e w2 ⟨rfl,hb⟩
    have hR2:=hid (hR1.out.kept hb)
    have hF2:=hid (hF1.out.trans (hR1.out.fr hb))
    clear hR1 hF1 hb hbad
    have c1:=hR2.out.c1
    have f1:=hR2.out.f1
    rcases hpb.out with ⟨g,g1,g2,g3⟩ | ⟨g2,k,g3,g4,g5,g6⟩
    ·rw [g2]
     have hR3:=hid (hR2.out.add g (by omega))
     have hF3:=hid (hF2.out.trans (hR2.out.frs 1 (.int .i64 ((i:Int)+(g:Int)))))
     have hfl:=hid (fail_calls H b s d (i+g) dp v ro _ hR3.out)
     have g3':=hid g3
     have hgs:i+g≤8388608:=by omega
     clear hpb g2 g3 g1
     go_wp2_with fail
     refine Calls.mono hfl.out ?_
     rintro e w3 ⟨rfl,hw⟩
     rw [hw,faultE]
     go_wp2
     exact ⟨rfl,.inr ⟨_,rfl,g3'.out,hF3.out⟩⟩
    ·rw [g2]
     have hR3:=hid (hR2.out.add n hsn)
     have hF3:=hid (hF2.out.trans (hR2.out.frs 1 (.int .i64 ((i:Int)+(n:Int)))))
     have hG:=hid (show PlP s i nm op (i+n) from ⟨by omega,g5,k,g3,g4,g6⟩)
     clear hpb g2 g3 g4 g5 g6
     go_wp2
     go_end0
     exact .inl ⟨_,rfl,hR3.out,hF3.out,hG.out⟩
def EsP (s:ByteArray) (i:Nat) (nm:Bool) (op:List Nat) (j:Nat):Prop:=i<j∧(Fl s i j op.length∧Sq T6 s i j)∧∃ k,Tk s j k∧InT nm op k
theorem esc_mem (c:Nat):escB c=true ↔ c ∈ ([34,92,47,98,102,110,114,116]:List UInt8).map UInt8.toNat:=by
 unfold escB
 simp
theorem hex_mem (c:Nat):hexN c=true ↔ c ∈ ([48,49,50,51,52,53,54,55,56,57,97,98,99,100,101,102,65,66,67,68,69,70]:List UInt8).map UInt8.toNat:=by
 unfold hexN
 simp
 omega
set_option maxRecDepth 10000 in
set_option maxHeartbeats 2000000 in
theorem escape_calls (H b:Nat) (s:ByteArray) (d:Int) (i:Nat) (dp:Int) (v:Value) (ro op:List Nat) (w:World) (hR:RdI H b s d i dp v ro w) (hs:s.size≤8388608) (nm:Bool) (m:Mc) (hT:Hid (Tk s i m)) (hI:Hid (InT nm op m)) (hc:Hid (byteAt s i=92)) :
  Calls Tryz.prog 208 #[.pointer (some ⟨b,0,none⟩)] w fun e w'=>Got H b s d dp v ro (EsP s i nm op) w e w':=by
 have hw:=hid (want_ok H b s d i dp v ro w hR hs 92 hc (by decide))
 obtain ⟨m7,t7,i7⟩:=InT.slash hT.out hI.out hc.out
 have f7:=hid (And.intro (Fl.one (L:=op.length) t7 (by rw [i7.op];exact Nat.le_refl _)) (Sq.one (P:=T6) t7 (.inr (.inl i7.st))))
 have t7':=hid t7
 have i7':=hid i7
 clear hT hI hc t7 i7 hR
 go_enter Tryz.func208,Tryz.ntmps208
 go_wp2_with fail
 refine Calls.mono hw.out ?_
 rintro e w1 ⟨rfl,hR1,hF1⟩
 have hR1':=hid hR1
 have hF1':=hid hF1
 have hl:=hid (lookR_calls H b s d (i+1) dp v ro w1 hR1 hs)
 clear hw hR1 hF1
 by_cases hu:byteAt s (i+1)=117
 ·rw [hu] at hl
  obtain ⟨m8,t8,i8⟩:=InE.hex t7'.out i7'.out hu
  have f8:=hid (And.intro (f7.out.1.snoc t8 (by rw [i8.op];exact Nat.le_refl _)) (f7.out.2.snoc t8 (.inr (.inr i8.st))))
  have t8':=hid t8
  have i8':=hid i8
  have hu':=hid hu
  clear t8 i8 hu t7' i7' f7
  go_wp2_with fail
  refine Calls.mono hl.out ?_
  rintro e w2 ⟨rfl,hb⟩
  have hR2:=hid (hR1'.out.kept hb)
  have hF2:=hid (hF1'.out.trans (hR1'.out.fr hb))
  clear hl hb hR1' hF1'
  have hw:=hid (want_ok H b s d (i+1) dp v ro w2 hR2.out hs 117 hu' (by decide))
  clear hu'
  go_wp2_with fail
  refine Calls.mono hw.out ?_
  rintro e w3 ⟨rfl,hR3,hF3⟩
  have hR3':=hid hR3
  have hF3':=hid (hF2.out.trans hF3)
  clear hw hR3 hF3 hR2 hF2
  go_wp2_with fail
  go_loopw [11] (fun jj wr=>∃ j:Nat,j≤4∧jj = .int .i64 (j:Int)∧Hid (RdI H b s d (i+2+j) dp v ro wr∧Fr H b w wr∧(Fl s i (i+2+j) op.length∧Sq T6 s i (i+2+j))∧∃ k,Tk s (i+2+j) k∧InH nm op (4-j) k)) (fun jj _=>4-(intOf jj).toNat)
  case atStart=>exact ⟨0,Nat.zero_le _,rfl,hR3'.out,hF3'.out,f8.out,m8,t8'.out,i8'.out⟩
  case round =>
   obtain ⟨j,hj,rfl,hI⟩:=hrel
   clear hR3' hF3' f8 t8' i8'
   by_cases hin:j<4
   ·have e1:decide ((j:Int)<4)=true:=by simp;omega
    by_cases hh:hexN (byteAt s (i+2+j))=true
    ·have hlt:i+2+j<s.size:=byteAt_in (fun x=>by rw [x] at hh;revert hh;decide)
     have hw:=hid (wantOne_ok H b s d (i+2+j) dp v ro wr hI.out.1 hs ⟨#[48,49,50,51,52,53,54,55,56,57,97,98,99,100,101,102,65,66,67,68,69,70]⟩ hlt ((hex_mem _).1 hh))
     have hh':=hid hh
     clear hh hlt
     go_wp2_with fail
     refine Calls.mono hw.out ?_
     rintro e w4 ⟨rfl,hR4,hF4⟩
     have hR4':=hid hR4
     have hF4':=hid hF4
     clear hw hR4 hF4
     go_wp2_with fail
     go_round
     case rel =>
      obtain ⟨a1,a2,a3,k,a4,a5⟩:=hI.out
      rw [show 4-j=(3-j)+1 by omega] at a5
      obtain ⟨k',b1,b2⟩:=InH.go a4 a5 hh'.out
      exact ⟨j+1,by omega,by simp,hR4'.out,a2.trans hF4'.out,⟨a3.1.snoc b1 (by rw [b2.op];exact Nat.le_refl _),a3.2.snoc b1 b2.t6⟩,k',b1,by rw [show 4-(j+1)=3-j by omega];exact b2⟩
     case measure=>simp [intOf];omega
    ·have hh2:hexN (byteAt s (i+2+j))=false:=by cases h:hexN (byteAt s (i+2+j)) with
      | true=>exact absurd h hh
      | false=>rfl
     have hw:=hid (wantOne_no H b s d (i+2+j) dp v ro wr hI.out.1 hs ⟨#[48,49,50,51,52,53,54,55,56,57,97,98,99,100,101,102,65,66,67,68,69,70]⟩ (fun x=>hh ((hex_mem _).2 x)))
     have hbad:Hid (BadAt s (i+2+j)):=by
      obtain ⟨a1,a2,a3,k,a4,a5⟩:=hI.out
      rw [show 4-j=(3-j)+1 by omega] at a5
      exact InH.off a4 a5 hh2
     clear hh hh2
     go_wp2_with fail
     refine Calls.mono hw.out ?_
     rintro e w4 ⟨rfl,hF4⟩
     have hF4':=hid (hI.out.2.1.trans hF4)
     clear hw hF4
     rw [faultE]
     go_wp2
     exact ⟨rfl,.inr ⟨_,rfl,hbad.out,hF4'.out⟩⟩
   ·have e1:decide ((j:Int)<4)=false:=by simp;omega
    obtain rfl:j=4:=by omega
    go_wp2
    go_end0
    obtain ⟨a1,a2,a3,k,a4,a5⟩:=hI.out
    exact .inl ⟨_,rfl,a1,a2,by omega,a3,k,a4,a5.done⟩
 ·have e1:((byteAt s (i+1):Int) == 117)=false:=by simp;omega
  by_cases hh:escB (byteAt s (i+1))=true
  ·obtain ⟨m8,t8,i8⟩:=InE.go t7'.out i7'.out hh
   have hG:Hid (EsP s i nm op (i+1+1)):=⟨by omega,⟨f7.out.1.snoc t8 (by rw [i8.op];exact Nat.le_refl _),f7.out.2.snoc t8 (.inl i8.st)⟩,m8,t8,i8⟩
   have hlt:i+1<s.size:=byteAt_in (fun x=>by rw [x] at hh;revert hh;decide)
   have hm:=hid ((esc_mem _).1 hh)
   clear t8 i8 hh t7' i7' f7 hu
   have hwo:=hid (fun u hu=>wantOne_ok H b s d (i+1) dp v ro u hu hs ⟨#[34,92,47,98,102,110,114,116]⟩ hlt hm)
   clear hm
   generalize byteAt s (i+1)=y at hl e1
   go_wp2_with fail
   refine Calls.mono hl.out ?_
   rintro e w2 ⟨rfl,hb⟩
   have hR2:=hid (hR1'.out.kept hb)
   have hF2:=hid (hF1'.out.trans (hR1'.out.fr hb))
   clear hl hb hR1' hF1'
   have hw:=hid (hwo.out w2 hR2.out)
   clear hwo
   go_wp2_with fail
   refine Calls.mono hw.out ?_
   rintro e w3 ⟨rfl,hR3,hF3⟩
   have hR3':=hid hR3
   have hF3':=hid (hF2.out.trans hF3)
   clear hw hR3 hF3 hR2 hF2
   go_wp2
   go_end0
   exact .inl ⟨_,rfl,hR3'.out,hF3'.out,hG.out⟩
  ·have hh2:escB (byteAt s (i+1))=false:=by cases h:escB (byteAt s (i+1)) with
    | true=>exact absurd h hh
    | false=>rfl
   have hbad:=hid (InE.off t7'.out i7'.out hh2 hu)
   have hwo:=hid (fun u hu=>wantOne_no H b s d (i+1) dp v ro u hu hs ⟨#[34,92,47,98,102,110,114,116]⟩ (fun x=>hh ((esc_mem _).2 x)))
   clear hh hh2 t7' i7' f7 hu
   generalize byteAt s (i+1)=y at hl e1
   go_wp2_with fail
   refine Calls.mono hl.out ?_
   rintro e w2 ⟨rfl,hb⟩
   have hR2:=hid (hR1'.out.kept hb)
   have hF2:=hid (hF1'.out.trans (hR1'.out.fr hb))
   clear hl hb hR1' hF1'
   have hw:=hid (hwo.out w2 hR2.out)
   clear hwo
   go_wp2_with fail
   refine Calls.mono hw.out ?_
   rintro e w3 ⟨rfl,hF3⟩
   have hF3':=hid (hF2.out.trans hF3)
   clear hw hF3 hR2 hF2
   rw [faultE]
   go_wp2
   exact ⟨rfl,.inr ⟨_,rfl,hbad.out,hF3'.out⟩⟩
def TxP (s:ByteArray) (i:Nat) (nm:Bool) (op:List Nat) (j:Nat):Prop:=i<j∧(Fl s i j op.length∧Sq T6 s i (j-1))∧∃ k,Tk s j k∧k.op=op∧k.st=if nm then 4 else 5
set_option maxRecDepth 10000 in
set_option maxHeartbeats 2000000 in
theorem text_calls (H b:Nat) (s:ByteArray) (d:Int) (i:Nat) (dp:Int) (v:Value) (ro op:List Nat) (w:World) (hR:RdI H b s d i dp v ro w) (hs:s.size≤8388608) (nm:Bool) (m:Mc) (hT:Hid (Tk s i m)) (hQ:Hid (Qw s i nm m)) (ho:Hid (m.op=op)) :
  Calls Tryz.prog 199 #[.pointer (some ⟨b,0,none⟩)] w fun e w'=>Got H b s d dp v ro (TxP s i nm op) w e w':=by
 by_cases hc:byteAt s i=34
 ·have hw:=hid (want_ok H b s d i dp v ro w hR hs 34 hc (by decide))
  obtain ⟨m6,t6,i6⟩:=Qw.go hT.out hQ.out hc
  rw [ho.out] at i6
  have f6:=hid (And.intro (Fl.one (L:=op.length) t6 (by rw [i6.op];exact Nat.le_refl _)) (Sq.one (P:=T6) t6 (.inl i6.st)))
  have t6':=hid t6
  have i6':=hid i6
  clear hT hQ ho t6 i6 hR hc
  go_enter Tryz.func199,Tryz.ntmps199
  go_wp2_with fail
  refine Calls.mono hw.out ?_
  rintro e w1 ⟨rfl,hR1,hF1⟩
  have hF1':=hid hF1
  have hp:=hid (plain_calls H b s d (i+1) dp v ro op w1 hR1 hs nm m6 t6' i6')
  clear hw hR1 hF1 t6' i6'
  go_wp2_with fail
  refine Calls.mono hp.out ?_
  rintro e w2 (⟨j,rfl,hR2,hF2,hP⟩ | ⟨k,rfl,hk,hF2⟩)
  ·have hS:Hid (RdI H b s d j dp v ro w2∧Fr H b w w2∧(Fl s i j op.length∧Sq T6 s i j)∧i<j∧∃ k,Tk s j k∧InT nm op k∧(byteAt s j=34∨byteAt s j=92∨byteAt s j<32)):=by
    obtain ⟨p1,p2,p3⟩:=hP
    exact ⟨hR2,hF1'.out.trans hF2,⟨f6.out.1.trans p2.1,f6.out.2.trans p2.2⟩,by omega,p3⟩
   clear hp hR2 hF2 hP hF1' f6
   go_wp2_with fail
   go_loopw [] (fun wr=>∃ j:Nat,Hid (RdI H b s d j dp v ro wr∧Fr H b w wr∧(Fl s i j op.length∧Sq T6 s i j)∧i<j∧∃ k,Tk s j k∧InT nm op k∧(byteAt s j=34∨byteAt s j=92∨byteAt s j<32))) (fun wr=>s.size-atN b wr)
   case atStart=>exact ⟨j,hS⟩
   case round =>
    clear hS j
    obtain ⟨j,hS⟩:=hrel
    have hat:=hid hS.out.1.atN
    have hl:=hid (lookR_calls H b s d j dp v ro wr hS.out.1 hs)
    by_cases hc:byteAt s j=92
    ·have hjs:j<s.size:=byteAt_in (by omega)
     rw [hc] at hl
     go_wp2_with fail
     refine Calls.mono hl.out ?_
     rintro e w3 ⟨rfl,hb⟩
     have hR3:=hid (hS.out.1.kept hb)
     have hF3:=hid (hS.out.2.1.trans (hS.out.1.fr hb))
     clear hl hb
     obtain ⟨-,-,s3,s4,k,s5,s6,-⟩:=hS.out
     have hes:=hid (escape_calls H b s d j dp v ro op w3 hR3.out hs nm k s5 s6 hc)
     have s3':=hid s3
     have s4':=hid s4
     clear s3 s4 s5 s6 hc hS hR3 k
     go_wp2_with fail
     refine Calls.mono hes.out ?_
     rintro e w4 (⟨j4,rfl,hR4,hF4,hP4⟩ | ⟨k,rfl,hk,hF4⟩)
     ·obtain ⟨q1,q2,k4,q3,q4⟩:=hP4
      have hpl:=hid (plain_calls H b s d j4 dp v ro op w4 hR4 hs nm k4 q3 q4)
      have hF4':=hid (hF3.out.trans hF4)
      have q1':=hid q1
      have q2':=hid q2
      clear hR4 hF4 hF3 hes q1 q2 q3 q4 k4
      go_wp2_with fail
      refine Calls.mono hpl.out ?_
      rintro e w5 (⟨j5,rfl,hR5,hF5,hP5⟩ | ⟨k,rfl,hk,hF5⟩)
      ·have hS5:Hid (RdI H b s d j5 dp v ro w5∧Fr H b w w5∧(Fl s i j5 op.length∧Sq T6 s i j5)∧i<j5∧∃ k,Tk s j5 k∧InT nm op k∧(byteAt s j5=34∨byteAt s j5=92∨byteAt s j5<32)):=by
        obtain ⟨p1,p2,p3⟩:=hP5
        exact ⟨hR5,hF4'.out.trans hF5,⟨(s3'.out.1.trans q2'.out.1).trans p2.1,(s3'.out.2.trans q2'.out.2).trans p2.2⟩,by have:=s4'.out;have:=q1'.out;omega,p3⟩
       have hj5:Hid (j<j5∧j5≤s.size):=by
        have:=hP5.1
        have:=q1'.out
        exact ⟨by omega,hR5.li⟩
       clear hR5 hF5 hP5 hpl hF4' q1' q2' s3' s4'
       go_wp2_with fail
       go_round
       case rel=>exact ⟨j5,hS5⟩
       case measure=>have:=hj5.out;rw [hS5.out.1.atN,hat.out];omega
      ·have hbad:=hid (show BadAt s k∧Fr H b w w5 from ⟨hk,hF4'.out.trans hF5⟩)
       clear hk hF5 hpl
       rw [faultE]
       go_wp2
       exact ⟨rfl,.inr ⟨_,rfl,hbad.out.1,hbad.out.2⟩⟩
     ·have hbad:=hid (show BadAt s k∧Fr H b w w4 from ⟨hk,hF3.out.trans hF4⟩)
      clear hk hF4 hes
      rw [faultE]
      go_wp2
      exact ⟨rfl,.inr ⟨_,rfl,hbad.out.1,hbad.out.2⟩⟩
    ·have e1:((byteAt s j:Int) == 92)=false:=by simp;omega
     by_cases hq:byteAt s j=34
     ·rw [hq] at hl e1
      have hG:Hid (TxP s i nm op (j+1)):=by
       obtain ⟨-,-,s3,s4,k,s5,s6,-⟩:=hS.out
       obtain ⟨k',b1,b2,b3⟩:=InT.done s5 s6 hq
       exact ⟨by omega,⟨s3.1.snoc b1 (by rw [b2];exact Nat.le_refl _),by rw [Nat.add_sub_cancel];exact s3.2⟩,k',b1,b2,b3⟩
      have hq':=hid hq
      clear hq hc
      go_wp2_with fail
      refine Calls.mono hl.out ?_
      rintro e w3 ⟨rfl,hb⟩
      have hR3:=hid (hS.out.1.kept hb)
      have hF3:=hid (hS.out.2.1.trans (hS.out.1.fr hb))
      clear hl hb hS
      have hw:=hid (want_ok H b s d j dp v ro w3 hR3.out hs 34 hq' (by decide))
      clear hq'
      go_wp2_with fail
      refine Calls.mono hw.out ?_
      rintro e w4 ⟨rfl,hR4,hF4⟩
      have hR4':=hid hR4
      have hF4':=hid (hF3.out.trans hF4)
      clear hw hR4 hF4 hR3 hF3
      go_wp2
      go_end0
      exact .inl ⟨_,rfl,hR4'.out,hF4'.out,hG.out⟩
     ·have hbad:Hid (BadAt s j):=by
       obtain ⟨-,-,s3,s4,k,s5,s6,s7⟩:=hS.out
       exact InT.off s5 s6 (by omega)
      have hwn:=hid (fun u hu=>want_no H b s d j dp v ro u hu hs 34 hq)
      clear hq hc
      generalize byteAt s j=y at hl e1
      go_wp2_with fail
      refine Calls.mono hl.out ?_
      rintro e w3 ⟨rfl,hb⟩
      have hR3:=hid (hS.out.1.kept hb)
      have hF3:=hid (hS.out.2.1.trans (hS.out.1.fr hb))
      clear hl hb hS
      have hw:=hid (hwn.out w3 hR3.out)
      clear hwn
      go_wp2_with fail
      refine Calls.mono hw.out ?_
      rintro e w4 ⟨rfl,hF4⟩
      have hF4':=hid (hF3.out.trans hF4)
      clear hw hF4 hR3 hF3
      rw [faultE]
      go_wp2
      exact ⟨rfl,.inr ⟨_,rfl,hbad.out,hF4'.out⟩⟩
  ·have hbad:=hid (show BadAt s k∧Fr H b w w2 from ⟨hk,hF1'.out.trans hF2⟩)
   clear hk hF2 hp
   rw [faultE]
   go_wp2
   exact ⟨rfl,.inr ⟨_,rfl,hbad.out.1,hbad.out.2⟩⟩
 ·have hw:=hid (want_no H b s d i dp v ro w hR hs 34 hc)
  have hbad:=hid (Qw.off hT.out hQ.out hc)
  clear hT hQ ho hR hc
  go_enter Tryz.func199,Tryz.ntmps199
  go_wp2_with fail
  refine Calls.mono hw.out ?_
  rintro e w1 ⟨rfl,hF1⟩
  have hF1':=hid hF1
  clear hw hF1
  rw [faultE]
  go_wp2
  exact ⟨rfl,.inr ⟨_,rfl,hbad.out,hF1'.out⟩⟩
end Go.Proofs.YtongedjlmohogaaGreatDoor
/- The reader of package valid: numbers,and scalars. -/
namespace Go.Proofs.YtongedjlmohogaaGreatDoor
open Go.RowKit Go.Shelf
theorem read_num (s:ByteArray) (p:Nat):(readS s p).2.1=(scanS s p).2∧((readS s p).2.2=110 ↔ (scanS s p).1=none):=by
 unfold readS
 split
 ·rename_i h;exact ⟨rfl,by simp [h]⟩
 ·rename_i n h
  split
  ·exact ⟨rfl,by simp [h]⟩
  ·exact ⟨rfl,by simp [h]⟩
def ScP (s:ByteArray) (i:Nat) (op:List Nat) (j:Nat):Prop:=i<j∧Fl s i j op.length∧∃ k,Tk s j k∧k.op=op∧Bhd s j k
def ScW (s:ByteArray) (i:Nat) (op:List Nat) (j:Nat):Prop:=ScP s i op j∧Ns s i j
set_option maxRecDepth 10000 in
set_option maxHeartbeats 2000000 in
theorem number_calls (H b:Nat) (s:ByteArray) (d:Int) (i:Nat) (dp:Int) (v:Value) (ro op:List Nat) (w:World) (hR:RdI H b s d i dp v ro w) (hs:s.size≤8388608) (m:Mc) (hT:Hid (Tk s i m)) (hV:Hid (Vw s i m)) (ho:Hid (m.op=op)) (hb:Hid (blankN (byteAt s i)=false))
  (hc:Hid (byteAt s i≠91∧byteAt s i≠123∧byteAt s i≠34∧byteAt s i≠110∧byteAt s i≠116∧byteAt s i≠102)) :
  Calls Tryz.prog 201 #[.pointer (some ⟨b,0,none⟩)] w fun e w'=>Got H b s d dp v ro (ScW s i op) w e w':=by
 have hrd:=hid (fun u=>readD_calls s i (by omega) hR.li u)
 have hnum:=hid (num_tk hT.out hV.out hb.out hc.out)
 have hle:(readS s i).2.1≤s.size:=read_end hR.li
 obtain ⟨hr1,hr2⟩:=read_num s i
 obtain ⟨⟨D,en,er⟩,hD⟩:∃ x,readS s i=x:=⟨_,rfl⟩
 rw [hD] at hle
 simp only [readV,hD] at hrd hr1 hr2
 obtain ⟨DN,DD,DX⟩:=D
 dsimp only [decV] at hrd
 generalize (⟨DD.toArray⟩:ByteArray)=TD at hrd
 rw [← hr1] at hnum
 rw [ho.out] at hnum
 have hG:Hid ((er=110∧BadAt s en)∨(er≠110∧ScW s i op en)):=by
  rcases hnum.out with ⟨h1,h2⟩ | ⟨h1,h2,h3,h4⟩
  ·exact .inl ⟨hr2.2 h1,h2⟩
  ·obtain ⟨k,a1,a2,a3⟩:=h4
   exact .inr ⟨fun x=>h1 (hr2.1 x),⟨h2,h3.1,k,a1,a2,a3⟩,sq_ns a1 h3.2⟩
 have hR':=hid hR
 have hx0:w.drew.cell? ⟨b,0,none⟩=some (.string s)∧w.drew.cell? ⟨b,1,none⟩=some (.int .i64 (i:Int)):=⟨hR.c0,hR.c1⟩
 have q0:=hid (show Below w.heap.size w w.drew from (Below.refl _ _).drew)
 have hel:(en:Int)≤(s.size:Int):=by have:en≤s.size:=hle;omega
 clear hnum hr1 hr2 hD hR hT hV ho hb hc hle
 go_enter Tryz.func201,Tryz.ntmps201
 go_wp2
 refine wp_region_held_drew (S:=fun w'=>w'.cell? ⟨b,0,none⟩=some (.string s)∧w'.cell? ⟨b,1,none⟩=some (.int .i64 (i:Int))) (by kernel_rfl) hx0 (fun hHeld=>?_)
 clear hHeld
 generalize w.drew=v0 at *
 (refine' wpAnyH_take (i:=0) rfl (by kernel_rfl) (by kernel_rfl) (by kernel_rfl) (fun _ _ _ h=>h) (Or.inl ⟨by rfl,?_⟩) (by assumption) ?_;rotate_left;(· (intro wq hq;(try dsimp only at hq);go_simp;first | done | with_reducible rfl));simp only [psA])
 (refine' wpAnyH_take (i:=1) rfl (by kernel_rfl) (by kernel_rfl) (by kernel_rfl) (fun _ _ _ h=>h) (Or.inl ⟨by rfl,?_⟩) (by assumption) ?_;rotate_left;(· (intro wq hq;(try dsimp only at hq);go_simp;first | done | with_reducible rfl));simp only [psA])
 (refine' wpAnyH_take (i:=2) rfl (by kernel_rfl) (by kernel_rfl) (by kernel_rfl) (fun _ _ _ h=>h) (Or.inl ⟨by rfl,?_⟩) (by assumption) ?_;rotate_left;(· (intro wq hq;(try dsimp only at hq);go_simp;first | done | with_reducible rfl));simp only [psA])
 (refine' wpAnyH_take (i:=3) rfl (by kernel_rfl) (by kernel_rfl) (by kernel_rfl) (fun _ _ _ h=>h) (Or.inl ⟨by rfl,?_⟩) (by assumption) ?_;rotate_left;(· (intro wq hq;(try dsimp only at hq);go_simp;first | done | with_reducible rfl));simp only [psA])
 (refine' wpAnyH_take (i:=4) rfl (by kernel_rfl) (by kernel_rfl) (by kernel_rfl) (fun _ _ _ h=>h) (Or.inl ⟨by rfl,?_⟩) (by assumption) ?_;rotate_left;(· (intro wq hq;(try dsimp only at hq);go_simp;first | done | with_reducible rfl));simp only [psA])
 (refine' wpAnyH_take (i:=5) rfl (by kernel_rfl) (by kernel_rfl) (by kernel_rfl) (fun _ _ _ h=>h) (Or.inl ⟨by rfl,?_⟩) (by assumption) ?_;rotate_left;(· (intro wq hq;(try dsimp only at hq);go_simp;first | done | with_reducible rfl));simp only [psA])
 (refine' wpAnyH_take (i:=6) rfl (by kernel_rfl) (by kernel_rfl) (by kernel_rfl) (fun _ _ _ h=>h) (Or.inl ⟨by rfl,?_⟩) (by assumption) ?_;rotate_left;(· (intro wq hq;(try dsimp only at hq);go_simp;first | done | with_reducible rfl));simp only [psA])
 (refine' wpAnyH_take (i:=7) rfl (by kernel_rfl) (by kernel_rfl) (by kernel_rfl) (fun _ _ _ h=>h) (Or.inl ⟨by rfl,?_⟩) (by assumption) ?_;rotate_left;(· (intro wq hq;(try dsimp only at hq);go_simp;first | done | with_reducible rfl));simp only [psA])
 refine wpAnyH_ready (rs:=[8,13]) (by kernel_rfl) (by simp) ?_
 refine AllReadyH.cons rfl (fun K hK=>?_) ?_
 ·rw [if_pos (by rfl)]
  go_simp
  refine Calls.mono (hrd.out _) ?_
  rintro e v1 ⟨rfl,q1⟩
  have b1:=hid (q0.out.trans (q1.mono q0.out.size))
  have hR1:=hid (hR'.out.kept b1.out)
  have hy1:=hid (And.intro hR1.out.c0 hR1.out.c1)
  refine hK.out _ _ hy1.out (fun _=>?_)
  clear hK K hrd
  (refine' wpAnyH_take (i:=9) rfl (by kernel_rfl) (by kernel_rfl) (by kernel_rfl) (fun _ _ _ h=>h) (Or.inl ⟨by rfl,?_⟩) (by assumption) ?_;rotate_left;(· (intro wq hq;(try dsimp only at hq);go_simp;first | done | with_reducible rfl));simp only [psA])
  (refine' wpAnyH_take (i:=10) rfl (by kernel_rfl) (by kernel_rfl) (by kernel_rfl) (fun _ _ _ h=>h) (Or.inl ⟨by rfl,?_⟩) (by assumption) ?_;rotate_left;(· (intro wq hq;(try dsimp only at hq);go_simp;first | done | with_reducible rfl));simp only [psA])
  (refine' wpAnyH_take (i:=11) rfl (by kernel_rfl) (by kernel_rfl) (by kernel_rfl) (fun _ _ _ h=>h) (Or.inl ⟨by rfl,?_⟩) (by assumption) ?_;rotate_left;(· (intro wq hq;(try dsimp only at hq);go_simp;first | done | with_reducible rfl));simp only [psA])
  (refine' wpAnyH_take (i:=12) rfl (by kernel_rfl) (by kernel_rfl) (by kernel_rfl) (fun _ _ _ h=>h) (Or.inl ⟨by rfl,?_⟩) (by assumption) ?_;rotate_left;(· (intro wq hq;(try dsimp only at hq);go_simp;first | done | with_reducible rfl));simp only [psA])
  refine wpAnyH_ready (rs:=[13]) (by kernel_rfl) (by simp) ?_
  refine AllReadyH.cons rfl (fun K hK=>?_) ?_
  ·go_simp
   obtain ⟨v2,e2⟩:∃ v,World.alloc v1 (.cells #[.bool false,.string ⟨#[]⟩,.int .i64 0] 170)=v:=⟨_,rfl⟩
   have q2:Below v1.heap.size v1 v2:=by rw [← e2];exact (Below.refl _ _).alloc (Nat.le_refl _) _
   have hp:=hid (show At v2 v1.heap.size #[.bool false,.string ⟨#[]⟩,.int .i64 0] 170 by rw [← e2];exact At.new v1 _ _)
   have hnb:=hid (show w.heap.size≤v1.heap.size from b1.out.size)
   rw [e2]
   clear e2
   have b2:=hid (b1.out.trans (q2.mono b1.out.size))
   have hR2:=hid (hR'.out.kept b2.out)
   have hy2:=hid (And.intro hR2.out.c0 hR2.out.c1)
   refine hK.out _ _ hy2.out (fun _=>?_)
   clear hK K hy1 hy2 hR1 hR2 b1 q2
   have d0:v2.cell? ⟨v1.heap.size,0,none⟩=some (.bool false):=hp.out.cell 0
   have d1:v2.cell? ⟨v1.heap.size,1,none⟩=some (.string ⟨#[]⟩):=hp.out.cell 1
   have d2:v2.cell? ⟨v1.heap.size,2,none⟩=some (.int .i64 0):=hp.out.cell 2
   have f0:=hp.out.frozen 0
   have f1:=hp.out.frozen 1
   have f2:=hp.out.frozen 2
   have b3:=hid (show Below w.heap.size w (((v2.setCell ⟨v1.heap.size,0,none⟩ (.bool DN)).setCell ⟨v1.heap.size,1,none⟩ (.string TD)).setCell ⟨v1.heap.size,2,none⟩ (.int .i64 DX)) from ((b2.out.setCell (p:=⟨v1.heap.size,0,none⟩) hnb.out _).setCell (p:=⟨v1.heap.size,1,none⟩) hnb.out _).setCell (p:=⟨v1.heap.size,2,none⟩) hnb.out _)
   have hR3:=hid (hR'.out.kept b3.out)
   have hy3:=hid (And.intro hR3.out.c0 hR3.out.c1)
   refine wpAnyH_ready (rs:=[14]) (by kernel_rfl) (by simp) ?_
   refine AllReadyH.cons rfl (fun K hK=>?_) ?_
   ·go_simp
    refine hK.out _ _ hy3.out (fun _=>?_)
    clear hK K d0 d1 d2 f0 f1 f2
    (refine' wpAnyH_take (i:=15) rfl (by kernel_rfl) (by kernel_rfl) (by kernel_rfl) (fun _ _ _ h=>h) (Or.inl ⟨by rfl,?_⟩) (by assumption) ?_;rotate_left;(· (intro wq hq;(try dsimp only at hq);go_simp;first | done | with_reducible rfl));simp only [psA])
    (refine' wpAnyH_take (i:=16) rfl (by kernel_rfl) (by kernel_rfl) (by kernel_rfl) (fun _ _ _ h=>h) (Or.inl ⟨by rfl,?_⟩) (by assumption) ?_;rotate_left;(· (intro wq hq;(try dsimp only at hq);go_simp;first | done | with_reducible rfl));simp only [psA])
    refine wpAnyH_done (by kernel_rfl) ?_ _
    have hF3:=hid (hR'.out.fr b3.out)
    clear hy3 b3 hp hnb b2
    generalize ((v2.setCell ⟨v1.heap.size,0,none⟩ (.bool DN)).setCell ⟨v1.heap.size,1,none⟩ (.string TD)).setCell ⟨v1.heap.size,2,none⟩ (.int .i64 DX)=v3 at *
    have c1:=hR3.out.c1
    have g1:=hR3.out.f1
    have hen:en≤s.size:=by omega
    have hR4:=hid (hR3.out.go en hen)
    have hF4:=hid (hF3.out.trans (hR3.out.frs 1 (.int .i64 (en:Int))))
    rcases hG.out with ⟨h1,h2⟩ | ⟨h1,h2⟩
    ·have e1:((er:Int) == 110)=true:=by simp [h1]
     have hfl:=hid (fail_calls H b s d en dp v ro _ hR4.out)
     have h2':=hid h2
     clear hG h1 h2
     go_wp2_with fail
     refine Calls.mono hfl.out ?_
     rintro e w3 ⟨rfl,hw⟩
     rw [hw,faultE]
     go_wp2
     exact ⟨rfl,.inr ⟨_,rfl,h2'.out,hF4.out⟩⟩
    ·have e1:((er:Int) == 110)=false:=by simp;omega
     have h2':=hid h2
     clear hG h1 h2
     go_wp2
     go_end0
     exact .inl ⟨_,rfl,hR4.out,hF4.out,h2'.out⟩
   exact AllReadyH.nil
  exact AllReadyH.nil
 refine AllReadyH.cons rfl (fun K hK=>?_) ?_
 ·go_simp
  obtain ⟨v1,e1⟩:∃ v,World.alloc v0 (.cells #[.bool false,.string ⟨#[]⟩,.int .i64 0] 170)=v:=⟨_,rfl⟩
  have q1:Below v0.heap.size v0 v1:=by rw [← e1];exact (Below.refl _ _).alloc (Nat.le_refl _) _
  have hp0:=hid (show At v1 v0.heap.size #[.bool false,.string ⟨#[]⟩,.int .i64 0] 170 by rw [← e1];exact At.new v0 _ _)
  have hnb:=hid (show w.heap.size≤v0.heap.size from q0.out.size)
  rw [e1]
  clear e1
  have b1:=hid (q0.out.trans (q1.mono q0.out.size))
  have hR1:=hid (hR'.out.kept b1.out)
  have hy1:=hid (And.intro hR1.out.c0 hR1.out.c1)
  refine hK.out _ _ hy1.out (fun _=>?_)
  clear hK K
  refine wpAnyH_ready (rs:=[8]) (by kernel_rfl) (by simp) ?_
  refine AllReadyH.cons rfl (fun K hK=>?_) ?_
  ·rw [if_pos (by rfl)]
   go_simp
   refine Calls.mono (hrd.out _) ?_
   rintro e v2 ⟨rfl,q2⟩
   have hp:=hid (hp0.out.keptAll q2)
   have b2:=hid (b1.out.trans (q2.mono b1.out.size))
   have hR2:=hid (hR'.out.kept b2.out)
   have hy2:=hid (And.intro hR2.out.c0 hR2.out.c1)
   refine hK.out _ _ hy2.out (fun _=>?_)
   clear hK K hrd hy1 hy2 hR1 hR2 b1 hp0 q1 q2
   (refine' wpAnyH_take (i:=9) rfl (by kernel_rfl) (by kernel_rfl) (by kernel_rfl) (fun _ _ _ h=>h) (Or.inl ⟨by rfl,?_⟩) (by assumption) ?_;rotate_left;(· (intro wq hq;(try dsimp only at hq);go_simp;first | done | with_reducible rfl));simp only [psA])
   (refine' wpAnyH_take (i:=10) rfl (by kernel_rfl) (by kernel_rfl) (by kernel_rfl) (fun _ _ _ h=>h) (Or.inl ⟨by rfl,?_⟩) (by assumption) ?_;rotate_left;(· (intro wq hq;(try dsimp only at hq);go_simp;first | done | with_reducible rfl));simp only [psA])
   (refine' wpAnyH_take (i:=11) rfl (by kernel_rfl) (by kernel_rfl) (by kernel_rfl) (fun _ _ _ h=>h) (Or.inl ⟨by rfl,?_⟩) (by assumption) ?_;rotate_left;(· (intro wq hq;(try dsimp only at hq);go_simp;first | done | with_reducible rfl));simp only [psA])
   (refine' wpAnyH_take (i:=12) rfl (by kernel_rfl) (by kernel_rfl) (by kernel_rfl) (fun _ _ _ h=>h) (Or.inl ⟨by rfl,?_⟩) (by assumption) ?_;rotate_left;(· (intro wq hq;(try dsimp only at hq);go_simp;first | done | with_reducible rfl));simp only [psA])
   have d0:v2.cell? ⟨v0.heap.size,0,none⟩=some (.bool false):=hp.out.cell 0
   have d1:v2.cell? ⟨v0.heap.size,1,none⟩=some (.string ⟨#[]⟩):=hp.out.cell 1
   have d2:v2.cell? ⟨v0.heap.size,2,none⟩=some (.int .i64 0):=hp.out.cell 2
   have f0:=hp.out.frozen 0
   have f1:=hp.out.frozen 1
   have f2:=hp.out.frozen 2
   have b3:=hid (show Below w.heap.size w (((v2.setCell ⟨v0.heap.size,0,none⟩ (.bool DN)).setCell ⟨v0.heap.size,1,none⟩ (.string TD)).setCell ⟨v0.heap.size,2,none⟩ (.int .i64 DX)) from ((b2.out.setCell (p:=⟨v0.heap.size,0,none⟩) hnb.out _).setCell (p:=⟨v0.heap.size,1,none⟩) hnb.out _).setCell (p:=⟨v0.heap.size,2,none⟩) hnb.out _)
   have hR3:=hid (hR'.out.kept b3.out)
   have hy3:=hid (And.intro hR3.out.c0 hR3.out.c1)
   refine wpAnyH_ready (rs:=[14]) (by kernel_rfl) (by simp) ?_
   refine AllReadyH.cons rfl (fun K hK=>?_) ?_
   ·go_simp
    refine hK.out _ _ hy3.out (fun _=>?_)
    clear hK K d0 d1 d2 f0 f1 f2
    (refine' wpAnyH_take (i:=15) rfl (by kernel_rfl) (by kernel_rfl) (by kernel_rfl) (fun _ _ _ h=>h) (Or.inl ⟨by rfl,?_⟩) (by assumption) ?_;rotate_left;(· (intro wq hq;(try dsimp only at hq);go_simp;first | done | with_reducible rfl));simp only [psA])
    (refine' wpAnyH_take (i:=16) rfl (by kernel_rfl) (by kernel_rfl) (by kernel_rfl) (fun _ _ _ h=>h) (Or.inl ⟨by rfl,?_⟩) (by assumption) ?_;rotate_left;(· (intro wq hq;(try dsimp only at hq);go_simp;first | done | with_reducible rfl));simp only [psA])
    refine wpAnyH_done (by kernel_rfl) ?_ _
    have hF3:=hid (hR'.out.fr b3.out)
    clear hy3 b3 hp hnb b2
    generalize ((v2.setCell ⟨v0.heap.size,0,none⟩ (.bool DN)).setCell ⟨v0.heap.size,1,none⟩ (.string TD)).setCell ⟨v0.heap.size,2,none⟩ (.int .i64 DX)=v3 at *
    have c1:=hR3.out.c1
    have g1:=hR3.out.f1
    have hen:en≤s.size:=by omega
    have hR4:=hid (hR3.out.go en hen)
    have hF4:=hid (hF3.out.trans (hR3.out.frs 1 (.int .i64 (en:Int))))
    rcases hG.out with ⟨h1,h2⟩ | ⟨h1,h2⟩
    ·have e1:((er:Int) == 110)=true:=by simp [h1]
     have hfl:=hid (fail_calls H b s d en dp v ro _ hR4.out)
     have h2':=hid h2
     clear hG h1 h2
     go_wp2_with fail
     refine Calls.mono hfl.out ?_
     rintro e w3 ⟨rfl,hw⟩
     rw [hw,faultE]
     go_wp2
     exact ⟨rfl,.inr ⟨_,rfl,h2'.out,hF4.out⟩⟩
    ·have e1:((er:Int) == 110)=false:=by simp;omega
     have h2':=hid h2
     clear hG h1 h2
     go_wp2
     go_end0
     exact .inl ⟨_,rfl,hR4.out,hF4.out,h2'.out⟩
   exact AllReadyH.nil
  exact AllReadyH.nil
 exact AllReadyH.nil
end Go.Proofs.YtongedjlmohogaaGreatDoor
/- The reader of package valid: scalars,brackets,names. -/
namespace Go.Proofs.YtongedjlmohogaaGreatDoor
open Go.RowKit Go.Shelf
set_option maxRecDepth 10000 in
set_option maxHeartbeats 1000000 in
theorem scalar_text (H b:Nat) (s:ByteArray) (d:Int) (i:Nat) (dp:Int) (v:Value) (ro op:List Nat) (w:World) (hR:RdI H b s d i dp v ro w) (hs:s.size≤8388608) (nm:Bool) (m:Mc) (hT:Hid (Tk s i m)) (hQ:Hid (Qw s i nm m)) (ho:Hid (m.op=op)) (hc:Hid (byteAt s i=34)) :
  Calls Tryz.prog 187 #[.pointer (some ⟨b,0,none⟩)] w fun e w'=>Got H b s d dp v ro (TxP s i nm op) w e w':=by
 have hl:=hid (lookR_calls H b s d i dp v ro w hR hs)
 rw [hc.out] at hl
 have hR':=hid hR
 clear hR
 go_enter Tryz.func187,Tryz.ntmps187
 go_wp2_with fail
 refine Calls.mono hl.out ?_
 rintro e w1 ⟨rfl,hb⟩
 have ht:=hid (text_calls H b s d i dp v ro op w1 (hR'.out.kept hb) hs nm m hT hQ ho)
 have hF:=hid (hR'.out.fr hb)
 clear hl hb hR' hT hQ ho hc
 go_wp2_with fail
 refine Calls.mono ht.out ?_
 rintro e w2 (⟨j,rfl,hR2,hF2,hP⟩ | ⟨k,rfl,hk,hF2⟩)
 ·have hG:Hid (Got H b s d dp v ro (TxP s i nm op) w (.returned (.tuple #[])) w2):=.inl ⟨j,rfl,hR2,hF.out.trans hF2,hP⟩
  clear hR2 hF2 hP hF ht
  go_wp2
  go_end0
  exact hG.out
 ·have hG:Hid (Got H b s d dp v ro (TxP s i nm op) w (faultE k) w2):=.inr ⟨k,rfl,hk,hF.out.trans hF2⟩
  clear hk hF2 hF ht
  rw [faultE]
  go_wp2
  exact ⟨rfl,hG.out⟩
set_option maxRecDepth 10000 in
set_option maxHeartbeats 2000000 in
theorem scalar_word (H b:Nat) (s:ByteArray) (d:Int) (i:Nat) (dp:Int) (v:Value) (ro op:List Nat) (w:World) (hR:RdI H b s d i dp v ro w) (hs:s.size≤8388608) (m:Mc) (hT:Hid (Tk s i m)) (hV:Hid (Vw s i m)) (ho:Hid (m.op=op)) (hb:Hid (blankN (byteAt s i)=false)) (h91:Hid (byteAt s i≠91)) (h123:Hid (byteAt s i≠123)) (h34:byteAt s i≠34) :
  Calls Tryz.prog 187 #[.pointer (some ⟨b,0,none⟩)] w fun e w'=>Got H b s d dp v ro (ScW s i op) w e w':=by
 have hl:=hid (lookR_calls H b s d i dp v ro w hR hs)
 have hR':=hid hR
 clear hR
 by_cases h110:byteAt s i=110
 ·rw [h110] at hl
  have hwd:=hid (fun u hu=>word_calls H b s d i dp v ro u hu hs ⟨#[110,117,108,108]⟩ (.inl rfl) m hT hV (by show byteAt s i=_;rw [h110];rfl))
  rw [ho.out] at hwd
  clear hT hV ho hb h91 h123
  go_enter Tryz.func187,Tryz.ntmps187
  go_wp2_with fail
  refine Calls.mono hl.out ?_
  rintro e w1 ⟨rfl,hb⟩
  have ht:=hid (hwd.out w1 (hR'.out.kept hb))
  have hF:=hid (hR'.out.fr hb)
  clear hl hb hR' hwd
  go_wp2_with fail
  refine Calls.mono ht.out ?_
  rintro e w2 (⟨j,rfl,hR2,hF2,hP⟩ | ⟨k,rfl,hk,hF2⟩)
  ·have hG:Hid (Got H b s d dp v ro (ScW s i op) w (.returned (.tuple #[])) w2):=by
    obtain ⟨p1,p2,k,p3,p4,p5⟩:=hP
    exact .inl ⟨j,rfl,hR2,hF.out.trans hF2,⟨p1,p2.1,k,p3,p4,bhd_five p5⟩,p2.2⟩
   clear hR2 hF2 hP hF ht
   go_wp2
   go_end0
   exact hG.out
  ·have hG:Hid (Got H b s d dp v ro (ScW s i op) w (faultE k) w2):=.inr ⟨k,rfl,hk,hF.out.trans hF2⟩
   clear hk hF2 hF ht
   rw [faultE]
   go_wp2
   exact ⟨rfl,hG.out⟩
 by_cases h116:byteAt s i=116
 ·rw [h116] at hl
  have hwd:=hid (fun u hu=>word_calls H b s d i dp v ro u hu hs ⟨#[116,114,117,101]⟩ (.inr (.inl rfl)) m hT hV (by show byteAt s i=_;rw [h116];rfl))
  rw [ho.out] at hwd
  clear hT hV ho hb h91 h123
  go_enter Tryz.func187,Tryz.ntmps187
  go_wp2_with fail
  refine Calls.mono hl.out ?_
  rintro e w1 ⟨rfl,hb⟩
  have ht:=hid (hwd.out w1 (hR'.out.kept hb))
  have hF:=hid (hR'.out.fr hb)
  clear hl hb hR' hwd
  go_wp2_with fail
  refine Calls.mono ht.out ?_
  rintro e w2 (⟨j,rfl,hR2,hF2,hP⟩ | ⟨k,rfl,hk,hF2⟩)
  ·have hG:Hid (Got H b s d dp v ro (ScW s i op) w (.returned (.tuple #[])) w2):=by
    obtain ⟨p1,p2,k,p3,p4,p5⟩:=hP
    exact .inl ⟨j,rfl,hR2,hF.out.trans hF2,⟨p1,p2.1,k,p3,p4,bhd_five p5⟩,p2.2⟩
   clear hR2 hF2 hP hF ht
   go_wp2
   go_end0
   exact hG.out
  ·have hG:Hid (Got H b s d dp v ro (ScW s i op) w (faultE k) w2):=.inr ⟨k,rfl,hk,hF.out.trans hF2⟩
   clear hk hF2 hF ht
   rw [faultE]
   go_wp2
   exact ⟨rfl,hG.out⟩
 by_cases h102:byteAt s i=102
 ·rw [h102] at hl
  have hwd:=hid (fun u hu=>word_calls H b s d i dp v ro u hu hs ⟨#[102,97,108,115,101]⟩ (.inr (.inr rfl)) m hT hV (by show byteAt s i=_;rw [h102];rfl))
  rw [ho.out] at hwd
  clear hT hV ho hb h91 h123
  go_enter Tryz.func187,Tryz.ntmps187
  go_wp2_with fail
  refine Calls.mono hl.out ?_
  rintro e w1 ⟨rfl,hb⟩
  have ht:=hid (hwd.out w1 (hR'.out.kept hb))
  have hF:=hid (hR'.out.fr hb)
  clear hl hb hR' hwd
  go_wp2_with fail
  refine Calls.mono ht.out ?_
  rintro e w2 (⟨j,rfl,hR2,hF2,hP⟩ | ⟨k,rfl,hk,hF2⟩)
  ·have hG:Hid (Got H b s d dp v ro (ScW s i op) w (.returned (.tuple #[])) w2):=by
    obtain ⟨p1,p2,k,p3,p4,p5⟩:=hP
    exact .inl ⟨j,rfl,hR2,hF.out.trans hF2,⟨p1,p2.1,k,p3,p4,bhd_five p5⟩,p2.2⟩
   clear hR2 hF2 hP hF ht
   go_wp2
   go_end0
   exact hG.out
  ·have hG:Hid (Got H b s d dp v ro (ScW s i op) w (faultE k) w2):=.inr ⟨k,rfl,hk,hF.out.trans hF2⟩
   clear hk hF2 hF ht
   rw [faultE]
   go_wp2
   exact ⟨rfl,hG.out⟩
 have e1:((byteAt s i:Int) == 34)=false:=by simp;omega
 have e2:((byteAt s i:Int) == 110)=false:=by simp;omega
 have e3:((byteAt s i:Int) == 116)=false:=by simp;omega
 have e4:((byteAt s i:Int) == 102)=false:=by simp;omega
 have hnm:=hid (fun u hu=>number_calls H b s d i dp v ro op u hu hs m hT hV ho hb ⟨h91.out,h123.out,h34,h110,h116,h102⟩)
 clear hT hV ho hb h91 h123 h34 h110 h116 h102
 generalize byteAt s i=y at hl e1 e2 e3 e4
 go_enter Tryz.func187,Tryz.ntmps187
 go_wp2_with fail
 refine Calls.mono hl.out ?_
 rintro e w1 ⟨rfl,hb⟩
 have ht:=hid (hnm.out w1 (hR'.out.kept hb))
 have hF:=hid (hR'.out.fr hb)
 clear hl hb hR' hnm
 go_wp2_with fail
 refine Calls.mono ht.out ?_
 rintro e w2 (⟨j,rfl,hR2,hF2,hP⟩ | ⟨k,rfl,hk,hF2⟩)
 ·have hG:Hid (Got H b s d dp v ro (ScW s i op) w (.returned (.tuple #[])) w2):=.inl ⟨j,rfl,hR2,hF.out.trans hF2,hP⟩
  clear hR2 hF2 hP hF ht
  go_wp2
  go_end0
  exact hG.out
 ·have hG:Hid (Got H b s d dp v ro (ScW s i op) w (faultE k) w2):=.inr ⟨k,rfl,hk,hF.out.trans hF2⟩
  clear hk hF2 hF ht
  rw [faultE]
  go_wp2
  exact ⟨rfl,hG.out⟩
theorem scalar_value (H b:Nat) (s:ByteArray) (d:Int) (i:Nat) (dp:Int) (v:Value) (ro op:List Nat) (w:World) (hR:RdI H b s d i dp v ro w) (hs:s.size≤8388608) (m:Mc) (hT:Hid (Tk s i m)) (hV:Hid (Vw s i m)) (ho:Hid (m.op=op)) (hb:Hid (blankN (byteAt s i)=false)) (h91:Hid (byteAt s i≠91)) (h123:Hid (byteAt s i≠123)) :
  Calls Tryz.prog 187 #[.pointer (some ⟨b,0,none⟩)] w fun e w'=>Got H b s d dp v ro (ScP s i op) w e w':=by
 by_cases h34:byteAt s i=34
 ·refine (scalar_text H b s d i dp v ro op w hR hs false m hT (qw_value hT.out hV.out h34) ho h34).mono ?_
  rintro e w2 (⟨j,rfl,hR2,hF2,hP⟩ | ⟨k,rfl,hk,hF2⟩)
  ·obtain ⟨p1,p2,k,p3,p4,p5⟩:=hP
   exact .inl ⟨j,rfl,hR2,hF2,p1,p2.1,k,p3,p4,bhd_five p5⟩
  ·exact .inr ⟨k,rfl,hk,hF2⟩
 ·refine (scalar_word H b s d i dp v ro op w hR hs m hT hV ho hb h91 h123 h34).mono ?_
  rintro e w2 (⟨j,rfl,hR2,hF2,hP⟩ | ⟨k,rfl,hk,hF2⟩)
  ·exact .inl ⟨j,rfl,hR2,hF2,hP.1⟩
  ·exact .inr ⟨k,rfl,hk,hF2⟩
theorem own_slice {H n:Nat} {v:Value} {xs:List Value} {w:World} (h:w.ownsRow H 5 1 v n xs):∃ o cap,v = .slice o n cap:=by
 rcases h.2 with ⟨rfl,h0⟩ | ⟨g,cap,cur,hv,-⟩
 ·exact ⟨none,0,by rw [h0]⟩
 ·exact ⟨_,_,hv⟩
theorem Fr.of_grown {H b:Nat} {o:Option Nat} {w w':World} (hH:H≤w.heap.size) (ho:∀ g,o=some g→H≤g) (h:w.grownBy w' o):Fr H b w w' :=
 ⟨h.os,h.tape,h.output,h.size,fun k hk _=>h.block k (by omega) (fun e=>by have:=ho k e.symm;omega)⟩
theorem own_popR {B g N cap:Nat} {xs:List Value} {w:World} (h:w.ownsRow B 5 1 (.slice (some ⟨g,0,none⟩) (N+1) cap) (N+1) xs):w.ownsRow B 5 1 (.slice (some ⟨g,0,none⟩) N cap) N xs.dropLast:=by
 obtain ⟨h1,h2⟩:=h
 rcases h2 with ⟨h,_⟩ | ⟨g',cap',cur,hv,hb,hg,hc,hm,hs,ht⟩
 ·cases h
 ·injection hv with e1 e2 e3
  injection e1 with e1
  injection e1 with e1
  subst e1 e3
  refine ⟨by rw [List.length_dropLast];omega,.inr ⟨g,cap,cur,rfl,hb,hg,by omega,hm,hs,?_⟩⟩
  rw [Nat.mul_one] at ht hs ⊢
  rw [← ht,List.dropLast_eq_take,List.take_take,List.length_take,Array.length_toList,hs]
  congr 1
  omega
theorem RdI.deep {H b i:Nat} {s:ByteArray} {d dp:Int} {v:Value} {op:List Nat} {w:World} (h:RdI H b s d i dp v op w) (x:Int):RdI H b s d i x v op (w.setCell ⟨b,4,none⟩ (.int .i64 x)) :=
 ⟨by simpa using h.at_.set 4 (.int .i64 x),own_only h.row h.lt ((Only.refl _ _).set _ _),h.lt,by have:=h.le;simpa using this,h.li⟩
theorem RdI.f2 {H b i:Nat} {s:ByteArray} {d dp:Int} {v:Value} {op:List Nat} {w:World} (h:RdI H b s d i dp v op w):w.frozen? ⟨b,2,none⟩=false:=h.at_.frozen 2
theorem RdI.f4 {H b i:Nat} {s:ByteArray} {d dp:Int} {v:Value} {op:List Nat} {w:World} (h:RdI H b s d i dp v op w):w.frozen? ⟨b,4,none⟩=false:=h.at_.frozen 4
def OpnP (H b:Nat) (s:ByteArray) (d:Int) (j:Nat) (dp:Int) (op:List Nat) (w:World) (e:Ending) (w':World):Prop:=e = .returned (.tuple #[])∧Fr H b w w'∧∃ v',RdI H b s d j dp v' op w'
theorem opn_end {H b i n:Nat} {s:ByteArray} {d dp:Int} {v v':Value} {op:List Nat} {a:Nat} {W w':World} (hR:RdI H b s d i dp v op W) (hi:i<s.size) (hn:op.length=n) (hown:w'.ownsRow H 5 1 v' (n+1) (opC (shutN op)++[.int .u8 ((a+2:Nat):Int)]))
  (hgrow:(W.alloc (.cells #[.int .u8 ((a+2:Nat):Int)] 5)).grownBy w' v.ownBlock) :
  At w' b #[.string s,.int .i64 (i:Int),v,.int .i64 d,.int .i64 dp] 191∧Fr H b W w'∧RdI H b s d (i+1) dp v' (op++[a]) ((w'.setCell ⟨b,2,none⟩ v').setCell ⟨b,1,none⟩ (.int .i64 ((i:Int)+1))):=by
 have hne:some b≠v.ownBlock:=fun e=>by have:=(hR.row.lt b e.symm).1;have:=hR.lt;omega
 have hA:At w' b #[.string s,.int .i64 (i:Int),v,.int .i64 d,.int .i64 dp] 191:=(hgrow.block b (by rw [World.size_alloc];have:=hR.at_.lt;omega) hne).trans (hR.at_.alloc _)
 have hle:=hR.le
 have hFr:Fr H b W w':=(Fr.of_below hle ((Below.refl _ _).alloc (Nat.le_refl _) _)).trans (Fr.of_grown (by rw [World.size_alloc];omega) (fun g hg=>(hR.row.lt g hg).1) hgrow)
 refine ⟨hA,hFr,?_,?_,hR.lt,?_,hi⟩
 ·have:=(hA.set 2 v').set 1 (.int .i64 (((i+1:Nat):Int)))
  push_cast at this ⊢
  simpa using this
 ·have h:=own_only (own_only hown hR.lt ((Only.refl b w').set 2 v')) hR.lt ((Only.refl b (w'.setCell ⟨b,2,none⟩ v')).set 1 (.int .i64 ((i:Int)+1)))
  rw [List.length_append,hn,shutN_app,opC_app]
  exact h
 ·have:=hFr.size
  simp
  omega
set_option maxRecDepth 10000 in
set_option maxHeartbeats 2000000 in
theorem open_calls (H b:Nat) (s:ByteArray) (d:Int) (i:Nat) (dp:Int) (v:Value) (op:List Nat) (w:World) (hR:RdI H b s d i dp v op w) (hs:s.size≤8388608) (hi:i<s.size) (hn:op.length≤8388608) (a:Nat) (DP:Int) (hDP:Hid (DP=if (op.length:Int)=d∧dp<0 then (i:Int) else dp)) :
  Calls Tryz.prog 186 #[.pointer (some ⟨b,0,none⟩),.int .u8 ((a+2:Nat):Int)] w fun e w'=>OpnP H b s d (i+1) DP (op++[a]) w e w':=by
 obtain ⟨o,cap,rfl⟩:=own_slice hR.row
 obtain ⟨n,hnn⟩:∃ n,Hid (op.length=n):=⟨_,rfl⟩
 rw [hnn.out] at hn hDP
 have hR':=hid hR
 rw [hnn.out] at hR'
 have c1:=hR'.out.c1
 have c2:=hR'.out.c2
 have c3:=hR'.out.c3
 have c4:=hR'.out.c4
 have f4:=hR'.out.f4
 obtain ⟨i0,hi0,hz0',hz1,hz2⟩:=info_parts infoU8
 have g0:=hid hz0'
 have g1:=hid hz1
 have g2:=hid hz2
 have g3:=hid hi0
 have hRd:=hid (hR'.out.kept (w':=w.drew) ((Below.refl _ _).drew))
 have hFd:=hid (hR'.out.fr (w':=w.drew) ((Below.refl _ _).drew))
 clear hz0' hz1 hz2 hi0 hR
 have hni:(n:Int)≤8388608:=by omega
 by_cases h1:(n:Int)=d
 ·by_cases h2:dp<0
  ·have e1:((n:Int) == d)=true:=by simp [h1]
   have e2:decide (dp<0)=true:=by simp [h2]
   have hdp:DP=(i:Int):=by rw [hDP.out,if_pos ⟨h1,h2⟩]
   subst hdp
   have hRW:=hid ((hR'.out.deep (i:Int)).kept (w':=(w.setCell ⟨b,4,none⟩ (.int .i64 (i:Int))).drew) ((Below.refl _ _).drew))
   have hFW:=hid ((hR'.out.frs 4 (.int .i64 (i:Int))).trans ((hR'.out.deep (i:Int)).fr (w':=(w.setCell ⟨b,4,none⟩ (.int .i64 (i:Int))).drew) ((Below.refl _ _).drew)))
   clear hDP h1 hRd hFd hR'
   go_enter Tryz.func186,Tryz.ntmps186
   go_wp2
   go_region
   go_upto_region 2 with fail
   clear c1 c2 c3 c4 f4 e1 e2 h2
   generalize (w.setCell ⟨b,4,none⟩ (.int .i64 (i:Int))).drew=W at hRW hFW ⊢
   have c1:=hRW.out.c1
   have c2:=hRW.out.c2
   have f1:=hRW.out.f1
   have f2:=hRW.out.f2
   have hrow:=hid hRW.out.row
   rw [hnn.out] at hrow
   have hBW:=hid hRW.out.le
   go_wp2_with (first
    | (at_builtin;refine wpList_append_own _ rfl _ _ 63 rfl H 5 i0 (.int .u8 0) 1 1 Tryz.underlying63 g3.out g0.out g1.out g2.out rfl (by decide) _ _ _ rfl (World.ownsRow.alloc hrow.out _) ⟨W.heap.size,0,none⟩ 1 1 [.int .u8 ((a+2:Nat):Int)] rfl rfl (fun j u hj=>by match j,hj with | 0,hj=>simp at hj;subst hj;simp [Addr.add]) (fun u hu=>by simp at hu;subst hu;rfl) (by unfold maxLen;omega) (by omega) (by rw [World.size_alloc];have:=hBW.out;omega) ?_)
    | go_in)
   intro v' w' hown hgrow _
   obtain ⟨hA,hF2,hR2⟩:=opn_end hRW.out hi hnn.out hown hgrow
   have j1:w'.cell? ⟨b,1,none⟩=some (.int .i64 (i:Int)):=hA.cell 1
   have j2:w'.cell? ⟨b,2,none⟩=some (.slice o n cap):=hA.cell 2
   have k1:=hA.frozen 1
   have k2:=hA.frozen 2
   have hG:Hid (OpnP H b s d (i+1) (i:Int) (op++[a]) w (.returned (.tuple #[])) ((w'.setCell ⟨b,2,none⟩ v').setCell ⟨b,1,none⟩ (.int .i64 ((i:Int)+1)))):=⟨rfl,(hFW.out.trans hF2).trans (Fr.of_only (((Only.refl _ _).set _ _).set _ _)),v',hR2⟩
   have hV':=hid (own_slice hown)
   clear hown hgrow hA hF2 hR2 c1 c2 f1 f2 hrow hBW hRW hFW
   obtain ⟨g',cap',rfl⟩:=hV'.out
   go_wp2
   go_end0
   exact hG.out
  ·have e1:((n:Int) == d)=true:=by simp [h1]
   have e2:decide (dp<0)=false:=by simp;omega
   have hdp:DP=dp:=by rw [hDP.out,if_neg (by omega)]
   subst hdp
   clear hDP hR' h1
   go_enter Tryz.func186,Tryz.ntmps186
   go_wp2
   go_region
   go_upto_region 2 with fail
   clear c1 c2 c3 c4 f4 e1 e2 h2
   obtain ⟨W,hW⟩:∃ W,w.drew=W:=⟨_,rfl⟩
   rw [hW] at hRd hFd ⊢
   clear hW
   have hRW:=hRd
   have hFW:=hFd
   clear hRd hFd
   have c1:=hRW.out.c1
   have c2:=hRW.out.c2
   have f1:=hRW.out.f1
   have f2:=hRW.out.f2
   have hrow:=hid hRW.out.row
   rw [hnn.out] at hrow
   have hBW:=hid hRW.out.le
   go_wp2_with (first
    | (at_builtin;refine wpList_append_own _ rfl _ _ 63 rfl H 5 i0 (.int .u8 0) 1 1 Tryz.underlying63 g3.out g0.out g1.out g2.out rfl (by decide) _ _ _ rfl (World.ownsRow.alloc hrow.out _) ⟨W.heap.size,0,none⟩ 1 1 [.int .u8 ((a+2:Nat):Int)] rfl rfl (fun j u hj=>by match j,hj with | 0,hj=>simp at hj;subst hj;simp [Addr.add]) (fun u hu=>by simp at hu;subst hu;rfl) (by unfold maxLen;omega) (by omega) (by rw [World.size_alloc];have:=hBW.out;omega) ?_)
    | go_in)
   intro v' w' hown hgrow _
   obtain ⟨hA,hF2,hR2⟩:=opn_end hRW.out hi hnn.out hown hgrow
   have j1:w'.cell? ⟨b,1,none⟩=some (.int .i64 (i:Int)):=hA.cell 1
   have j2:w'.cell? ⟨b,2,none⟩=some (.slice o n cap):=hA.cell 2
   have k1:=hA.frozen 1
   have k2:=hA.frozen 2
   have hG:Hid (OpnP H b s d (i+1) DP (op++[a]) w (.returned (.tuple #[])) ((w'.setCell ⟨b,2,none⟩ v').setCell ⟨b,1,none⟩ (.int .i64 ((i:Int)+1)))):=⟨rfl,(hFW.out.trans hF2).trans (Fr.of_only (((Only.refl _ _).set _ _).set _ _)),v',hR2⟩
   have hV':=hid (own_slice hown)
   clear hown hgrow hA hF2 hR2 c1 c2 f1 f2 hrow hBW hRW hFW
   obtain ⟨g',cap',rfl⟩:=hV'.out
   go_wp2
   go_end0
   exact hG.out
 ·have e1:((n:Int) == d)=false:=by simp [h1]
  have hdp:DP=dp:=by rw [hDP.out,if_neg (by omega)]
  subst hdp
  clear hDP hR'
  go_enter Tryz.func186,Tryz.ntmps186
  go_wp2
  go_region
  go_upto_region 2 with fail
  clear c1 c2 c3 c4 f4 e1 h1
  obtain ⟨W,hW⟩:∃ W,w.drew=W:=⟨_,rfl⟩
  rw [hW] at hRd hFd ⊢
  clear hW
  have hRW:=hRd
  have hFW:=hFd
  clear hRd hFd
  have c1:=hRW.out.c1
  have c2:=hRW.out.c2
  have f1:=hRW.out.f1
  have f2:=hRW.out.f2
  have hrow:=hid hRW.out.row
  rw [hnn.out] at hrow
  have hBW:=hid hRW.out.le
  go_wp2_with (first
   | (at_builtin;refine wpList_append_own _ rfl _ _ 63 rfl H 5 i0 (.int .u8 0) 1 1 Tryz.underlying63 g3.out g0.out g1.out g2.out rfl (by decide) _ _ _ rfl (World.ownsRow.alloc hrow.out _) ⟨W.heap.size,0,none⟩ 1 1 [.int .u8 ((a+2:Nat):Int)] rfl rfl (fun j u hj=>by match j,hj with | 0,hj=>simp at hj;subst hj;simp [Addr.add]) (fun u hu=>by simp at hu;subst hu;rfl) (by unfold maxLen;omega) (by omega) (by rw [World.size_alloc];have:=hBW.out;omega) ?_)
   | go_in)
  intro v' w' hown hgrow _
  obtain ⟨hA,hF2,hR2⟩:=opn_end hRW.out hi hnn.out hown hgrow
  have j1:w'.cell? ⟨b,1,none⟩=some (.int .i64 (i:Int)):=hA.cell 1
  have j2:w'.cell? ⟨b,2,none⟩=some (.slice o n cap):=hA.cell 2
  have k1:=hA.frozen 1
  have k2:=hA.frozen 2
  have hG:Hid (OpnP H b s d (i+1) DP (op++[a]) w (.returned (.tuple #[])) ((w'.setCell ⟨b,2,none⟩ v').setCell ⟨b,1,none⟩ (.int .i64 ((i:Int)+1)))):=⟨rfl,(hFW.out.trans hF2).trans (Fr.of_only (((Only.refl _ _).set _ _).set _ _)),v',hR2⟩
  have hV':=hid (own_slice hown)
  clear hown hgrow hA hF2 hR2 c1 c2 f1 f2 hrow hBW hRW hFW
  obtain ⟨g',cap',rfl⟩:=hV'.out
  go_wp2
  go_end0
  exact hG.out
end Go.Proofs.YtongedjlmohogaaGreatDoor
/- The reader of package valid: a bracket that closes,a name. -/
namespace Go.Proofs.YtongedjlmohogaaGreatDoor
open Go.RowKit Go.Shelf
theorem RdI.top {H b i:Nat} {s:ByteArray} {d dp:Int} {v:Value} {l:List Nat} {a:Nat} {w:World} (h:RdI H b s d i dp v (l++[a]) w) :
  ∃ g cap,v = .slice (some ⟨g,0,none⟩) (l.length+1) cap∧l.length+1≤cap∧H≤g∧g<w.heap.size∧w.cell? ⟨g,l.length,none⟩=some (.int .u8 ((a+2:Nat):Int)):=by
 have hr:=h.row
 rw [List.length_append,List.length_singleton] at hr
 rcases hr.2 with ⟨-,h0⟩ | ⟨g,cap,cur,hv,hb,hgg,hcap,hmx,hsz,htk⟩
 ·omega
 ·refine ⟨g,cap,hv,by omega,(hr.lt g (by rw [hv];rfl)).1,(hr.lt g (by rw [hv];rfl)).2,?_⟩
  have hget:(opC (shutN (l++[a])))[l.length]? = some (.int .u8 ((a+2:Nat):Int)):=by
   simp [opC,shutN]
  have hcell:=hr.cells (g:=g) (by rw [hv];rfl) l.length _ hget
  have hadd:(⟨g,0,none⟩:Addr).add l.length=⟨g,l.length,none⟩:=by by_cases h:l.length=0 <;> simp [Addr.add,h]
  rwa [hadd] at hcell
theorem RdI.pop {H b i g cap:Nat} {s:ByteArray} {d dp:Int} {l:List Nat} {a:Nat} {w:World} (h:RdI H b s d i dp (.slice (some ⟨g,0,none⟩) (l.length+1) cap) (l++[a]) w) (hi:i<s.size) :
  RdI H b s d (i+1) dp (.slice (some ⟨g,0,none⟩) l.length cap) l ((w.setCell ⟨b,2,none⟩ (.slice (some ⟨g,0,none⟩) l.length cap)).setCell ⟨b,1,none⟩ (.int .i64 ((i:Int)+1))):=by
 have hr:=h.row
 rw [List.length_append,List.length_singleton] at hr
 have hp:=own_popR hr
 refine ⟨?_,?_,h.lt,?_,hi⟩
 ·have:=(h.at_.set 2 (.slice (some ⟨g,0,none⟩) l.length cap)).set 1 (.int .i64 (((i+1:Nat):Int)))
  push_cast at this ⊢
  simpa using this
 ·have h5:=own_only (own_only hp h.lt ((Only.refl b w).set 2 (.slice (some ⟨g,0,none⟩) l.length cap))) h.lt ((Only.refl b (w.setCell ⟨b,2,none⟩ (.slice (some ⟨g,0,none⟩) l.length cap))).set 1 (.int .i64 ((i:Int)+1)))
  have e:(opC (shutN (l++[a]))).dropLast=opC (shutN l):=by simp [opC,shutN]
  rw [e] at h5
  exact h5
 ·have:=h.le
  simpa using this
def ClY (H b:Nat) (s:ByteArray) (d:Int) (j:Nat) (dp:Int) (l:List Nat) (w:World) (e:Ending) (w':World):Prop:=e = .returned (.bool true)∧Fr H b w w'∧∃ v',RdI H b s d (j+1) dp v' l w'
set_option maxRecDepth 10000 in
set_option maxHeartbeats 2000000 in
theorem closes_yes (H b:Nat) (s:ByteArray) (d:Int) (i:Nat) (dp:Int) (v:Value) (l:List Nat) (a:Nat) (w:World) (hR:RdI H b s d i dp v (l++[a]) w) (hs:s.size≤8388608) (hn:l.length≤8388608) (j:Nat) (hj:Hid (IsSkip s i j)) (hc:Hid (byteAt s j=a+2)) :
  Calls Tryz.prog 182 #[.pointer (some ⟨b,0,none⟩)] w fun e w'=>ClY H b s d j dp l w e w':=by
 have hbl:=hid (blanks_calls H b s d i dp v (l++[a]) w hR hs j hj)
 have hjs:j≤s.size:=hj.out.2.1
 clear hR hj
 go_enter Tryz.func182,Tryz.ntmps182
 go_wp2_with fail
 refine Calls.mono hbl.out ?_
 rintro e w1 ⟨rfl,hR1,hF1⟩
 obtain ⟨g,cap,rfl,hcap,hHg,hgw,hce⟩:=hR1.top
 obtain ⟨n,hnn⟩:∃ n,Hid (l.length=n):=⟨_,rfl⟩
 have hR1':=hid hR1
 have hF1':=hid hF1
 rw [hnn.out] at hce hn hcap hR1'
 clear hR1 hF1 hbl
 have c2:=hR1'.out.c2
 have hni:(n:Int)+1≤8388609:=by omega
 have hn1:(n:Int)+1-1=(n:Int):=by omega
 go_upto_region 3 with fail
 have hx0:w1.drew.cell? ⟨b,2,none⟩=some (.slice (some ⟨g,0,none⟩) (n+1) cap)∧w1.drew.cell? ⟨g,n,none⟩=some (.int .u8 ((a+2:Nat):Int)):=⟨c2,hce⟩
 have q0:=hid (show Below w1.heap.size w1 w1.drew from (Below.refl _ _).drew)
 have hRd:=hid (hR1'.out.kept q0.out)
 have hFd:=hid (hF1'.out.trans (hR1'.out.fr q0.out))
 have hlk:=hid (lookR_calls H b s d j dp _ (l++[a]) _ hRd.out hs)
 rw [hc.out] at hlk
 have hadd:(⟨g,0,none⟩:Addr).add n=⟨g,n,none⟩:=by by_cases h:n=0 <;> simp [Addr.add,h]
 have g2:(n:Int)<(n:Int)+1:=by omega
 go_wp2
 refine wp_region_held_drew (S:=fun w'=>w'.cell? ⟨b,2,none⟩=some (.slice (some ⟨g,0,none⟩) (n+1) cap)∧w'.cell? ⟨g,n,none⟩=some (.int .u8 ((a+2:Nat):Int))) (by kernel_rfl) hx0 (fun hHeld=>?_)
 clear hHeld c2 hce hR1' hF1' q0
 generalize w1.drew=v0 at *
 (refine' wpAnyH_take (i:=0) rfl (by kernel_rfl) (by kernel_rfl) (by kernel_rfl) (fun _ _ _ h=>h) (Or.inl ⟨by rfl,?_⟩) (by assumption) ?_;rotate_left;(· (intro wq hq;(try dsimp only at hq);go_simp;first | done | with_reducible rfl));simp only [psA])
 (refine' wpAnyH_take (i:=2) rfl (by kernel_rfl) (by kernel_rfl) (by kernel_rfl) (fun _ _ _ h=>h) (Or.inl ⟨by rfl,?_⟩) (by assumption) ?_;rotate_left;(· (intro wq hq;(try dsimp only at hq);go_simp;first | done | with_reducible rfl));simp only [psA])
 (refine' wpAnyH_take (i:=3) rfl (by kernel_rfl) (by kernel_rfl) (by kernel_rfl) (fun _ _ _ h=>h) (Or.inl ⟨by rfl,?_⟩) (by assumption) ?_;rotate_left;(· (intro wq hq;(try dsimp only at hq);go_simp;first | done | with_reducible rfl));simp only [psA])
 (refine' wpAnyH_take (i:=4) rfl (by kernel_rfl) (by kernel_rfl) (by kernel_rfl) (fun _ _ _ h=>h) (Or.inl ⟨by rfl,?_⟩) (by assumption) ?_;rotate_left;(· (intro wq hq;(try dsimp only at hq);go_simp;first | done | with_reducible rfl));simp only [psA])
 (refine' wpAnyH_take (i:=5) rfl (by kernel_rfl) (by kernel_rfl) (by kernel_rfl) (fun _ _ _ h=>h) (Or.inl ⟨by rfl,?_⟩) (by assumption) ?_;rotate_left;(· (intro wq hq;(try dsimp only at hq);go_simp;first | done | with_reducible rfl));simp only [psA])
 (refine' wpAnyH_take (i:=6) rfl (by kernel_rfl) (by kernel_rfl) (by kernel_rfl) (fun _ _ _ h=>h) (Or.inl ⟨by rfl,?_⟩) (by assumption) ?_;rotate_left;(· (intro wq hq;(try dsimp only at hq);go_simp;first | done | with_reducible rfl));simp only [psA])
 (refine' wpAnyH_take (i:=7) rfl (by kernel_rfl) (by kernel_rfl) (by kernel_rfl) (fun _ _ _ h=>h) (Or.inl ⟨by rfl,?_⟩) (by assumption) ?_;rotate_left;(· (intro wq hq;(try dsimp only at hq);go_simp;first | done | with_reducible rfl));simp only [psA])
 (refine' wpAnyH_take (i:=8) rfl (by kernel_rfl) (by kernel_rfl) (by kernel_rfl) (fun _ _ _ h=>h) (Or.inl ⟨by rfl,?_⟩) (by assumption) ?_;rotate_left;(· (intro wq hq;(try dsimp only at hq);go_simp;first | done | with_reducible rfl));simp only [psA])
 refine wpAnyH_ready (rs:=[1]) (by kernel_rfl) (by simp) ?_
 refine AllReadyH.cons rfl (fun K hK=>?_) ?_
 ·rw [if_pos (by rfl)]
  go_simp
  refine Calls.mono hlk.out ?_
  rintro e v1 ⟨rfl,q1⟩
  have hR2:=hid (hRd.out.kept q1)
  have hF2:=hid (hFd.out.trans (hRd.out.fr q1))
  have hy:=hid (hR2.out.top)
  rw [hnn.out] at hy
  have hy1:v1.cell? ⟨b,2,none⟩=some (.slice (some ⟨g,0,none⟩) (n+1) cap)∧v1.cell? ⟨g,n,none⟩=some (.int .u8 ((a+2:Nat):Int)):=by
   refine ⟨hR2.out.c2,?_⟩
   obtain ⟨g',cap',e,-,-,-,hh⟩:=hy.out
   injection e with e1 e2 e3
   injection e1 with e1
   injection e1 with e1
   subst e1
   exact hh
  refine hK.out _ _ hy1 (fun _=>?_)
  clear hK K hlk hRd hFd q1 hy hx0
  (refine' wpAnyH_take (i:=9) rfl (by kernel_rfl) (by kernel_rfl) (by kernel_rfl) (fun _ _ _ h=>h) (Or.inl ⟨by rfl,?_⟩) (by assumption) ?_;rotate_left;(· (intro wq hq;(try dsimp only at hq);go_simp;first | done | with_reducible rfl));simp only [psA])
  refine wpAnyH_done (by kernel_rfl) ?_ _
  have hjl:j<s.size:=byteAt_in (by rw [hc.out];omega)
  have c1:=hR2.out.c1
  have f1:=hR2.out.f1
  have c2:=hR2.out.c2
  have f2:=hR2.out.f2
  have hR3:=hid (show RdI H b s d (j+1) dp (.slice (some ⟨g,0,none⟩) n cap) l ((v1.setCell ⟨b,2,none⟩ (.slice (some ⟨g,0,none⟩) n cap)).setCell ⟨b,1,none⟩ (.int .i64 ((j:Int)+1))) by have:=hR2.out;rw [← hnn.out] at this ⊢;exact this.pop hjl)
  have hF3:=hid (hF2.out.trans (show Fr H b v1 ((v1.setCell ⟨b,2,none⟩ (.slice (some ⟨g,0,none⟩) n cap)).setCell ⟨b,1,none⟩ (.int .i64 ((j:Int)+1))) from Fr.of_only (((Only.refl _ _).set _ _).set _ _)))
  clear hy1 hR2 hF2
  go_wp2
  go_ret
  exact ⟨rfl,hF3.out,_,hR3.out⟩
 exact AllReadyH.nil
def ClN (H b:Nat) (s:ByteArray) (d:Int) (j:Nat) (dp:Int) (v:Value) (l:List Nat) (a:Nat) (w:World) (e:Ending) (w':World):Prop:=e = .returned (.bool false)∧Fr H b w w'∧RdI H b s d j dp v (l++[a]) w'
set_option maxRecDepth 10000 in
set_option maxHeartbeats 2000000 in
theorem closes_no (H b:Nat) (s:ByteArray) (d:Int) (i:Nat) (dp:Int) (v:Value) (l:List Nat) (a:Nat) (w:World) (hR:RdI H b s d i dp v (l++[a]) w) (hs:s.size≤8388608) (hn:l.length≤8388608) (j:Nat) (hj:Hid (IsSkip s i j)) (hc:Hid (byteAt s j≠a+2)) :
  Calls Tryz.prog 182 #[.pointer (some ⟨b,0,none⟩)] w fun e w'=>ClN H b s d j dp v l a w e w':=by
 have hbl:=hid (blanks_calls H b s d i dp v (l++[a]) w hR hs j hj)
 have hjs:j≤s.size:=hj.out.2.1
 clear hR hj
 go_enter Tryz.func182,Tryz.ntmps182
 go_wp2_with fail
 refine Calls.mono hbl.out ?_
 rintro e w1 ⟨rfl,hR1,hF1⟩
 obtain ⟨g,cap,rfl,hcap,hHg,hgw,hce⟩:=hR1.top
 obtain ⟨n,hnn⟩:∃ n,Hid (l.length=n):=⟨_,rfl⟩
 have hR1':=hid hR1
 have hF1':=hid hF1
 rw [hnn.out] at hce hn hcap hR1'
 clear hR1 hF1 hbl
 have c2:=hR1'.out.c2
 have hni:(n:Int)+1≤8388609:=by omega
 have hn1:(n:Int)+1-1=(n:Int):=by omega
 go_upto_region 3 with fail
 have hx0:w1.drew.cell? ⟨b,2,none⟩=some (.slice (some ⟨g,0,none⟩) (n+1) cap)∧w1.drew.cell? ⟨g,n,none⟩=some (.int .u8 ((a+2:Nat):Int)):=⟨c2,hce⟩
 have q0:=hid (show Below w1.heap.size w1 w1.drew from (Below.refl _ _).drew)
 have hRd:=hid (hR1'.out.kept q0.out)
 have hFd:=hid (hF1'.out.trans (hR1'.out.fr q0.out))
 have hlk:=hid (lookR_calls H b s d j dp _ (l++[a]) _ hRd.out hs)
 have e1:((byteAt s j:Int) != (a:Int)+2)=true:=by have:=hc.out;simp;omega
 have e2:¬ (byteAt s j:Int)=(a:Int)+2:=by have:=hc.out;omega
 generalize byteAt s j=y at hlk e1 e2
 have hadd:(⟨g,0,none⟩:Addr).add n=⟨g,n,none⟩:=by by_cases h:n=0 <;> simp [Addr.add,h]
 have g2:(n:Int)<(n:Int)+1:=by omega
 go_wp2
 refine wp_region_held_drew (S:=fun w'=>w'.cell? ⟨b,2,none⟩=some (.slice (some ⟨g,0,none⟩) (n+1) cap)∧w'.cell? ⟨g,n,none⟩=some (.int .u8 ((a+2:Nat):Int))) (by kernel_rfl) hx0 (fun hHeld=>?_)
 clear hHeld c2 hce hR1' hF1' q0
 generalize w1.drew=v0 at *
 (refine' wpAnyH_take (i:=0) rfl (by kernel_rfl) (by kernel_rfl) (by kernel_rfl) (fun _ _ _ h=>h) (Or.inl ⟨by rfl,?_⟩) (by assumption) ?_;rotate_left;(· (intro wq hq;(try dsimp only at hq);go_simp;first | done | with_reducible rfl));simp only [psA])
 (refine' wpAnyH_take (i:=2) rfl (by kernel_rfl) (by kernel_rfl) (by kernel_rfl) (fun _ _ _ h=>h) (Or.inl ⟨by rfl,?_⟩) (by assumption) ?_;rotate_left;(· (intro wq hq;(try dsimp only at hq);go_simp;first | done | with_reducible rfl));simp only [psA])
 (refine' wpAnyH_take (i:=3) rfl (by kernel_rfl) (by kernel_rfl) (by kernel_rfl) (fun _ _ _ h=>h) (Or.inl ⟨by rfl,?_⟩) (by assumption) ?_;rotate_left;(· (intro wq hq;(try dsimp only at hq);go_simp;first | done | with_reducible rfl));simp only [psA])
 (refine' wpAnyH_take (i:=4) rfl (by kernel_rfl) (by kernel_rfl) (by kernel_rfl) (fun _ _ _ h=>h) (Or.inl ⟨by rfl,?_⟩) (by assumption) ?_;rotate_left;(· (intro wq hq;(try dsimp only at hq);go_simp;first | done | with_reducible rfl));simp only [psA])
 (refine' wpAnyH_take (i:=5) rfl (by kernel_rfl) (by kernel_rfl) (by kernel_rfl) (fun _ _ _ h=>h) (Or.inl ⟨by rfl,?_⟩) (by assumption) ?_;rotate_left;(· (intro wq hq;(try dsimp only at hq);go_simp;first | done | with_reducible rfl));simp only [psA])
 (refine' wpAnyH_take (i:=6) rfl (by kernel_rfl) (by kernel_rfl) (by kernel_rfl) (fun _ _ _ h=>h) (Or.inl ⟨by rfl,?_⟩) (by assumption) ?_;rotate_left;(· (intro wq hq;(try dsimp only at hq);go_simp;first | done | with_reducible rfl));simp only [psA])
 (refine' wpAnyH_take (i:=7) rfl (by kernel_rfl) (by kernel_rfl) (by kernel_rfl) (fun _ _ _ h=>h) (Or.inl ⟨by rfl,?_⟩) (by assumption) ?_;rotate_left;(· (intro wq hq;(try dsimp only at hq);go_simp;first | done | with_reducible rfl));simp only [psA])
 (refine' wpAnyH_take (i:=8) rfl (by kernel_rfl) (by kernel_rfl) (by kernel_rfl) (fun _ _ _ h=>h) (Or.inl ⟨by rfl,?_⟩) (by assumption) ?_;rotate_left;(· (intro wq hq;(try dsimp only at hq);go_simp;first | done | with_reducible rfl));simp only [psA])
 refine wpAnyH_ready (rs:=[1]) (by kernel_rfl) (by simp) ?_
 refine AllReadyH.cons rfl (fun K hK=>?_) ?_
 ·rw [if_pos (by rfl)]
  go_simp
  refine Calls.mono hlk.out ?_
  rintro e v1 ⟨rfl,q1⟩
  have hR2:=hid (hRd.out.kept q1)
  have hF2:=hid (hFd.out.trans (hRd.out.fr q1))
  have hy:=hid (hR2.out.top)
  rw [hnn.out] at hy
  have hy1:v1.cell? ⟨b,2,none⟩=some (.slice (some ⟨g,0,none⟩) (n+1) cap)∧v1.cell? ⟨g,n,none⟩=some (.int .u8 ((a+2:Nat):Int)):=by
   refine ⟨hR2.out.c2,?_⟩
   obtain ⟨g',cap',e,-,-,-,hh⟩:=hy.out
   injection e with e1 e2 e3
   injection e1 with e1
   injection e1 with e1
   subst e1
   exact hh
  refine hK.out _ _ hy1 (fun _=>?_)
  clear hK K hlk hRd hFd q1 hy hx0
  (refine' wpAnyH_take (i:=9) rfl (by kernel_rfl) (by kernel_rfl) (by kernel_rfl) (fun _ _ _ h=>h) (Or.inl ⟨by rfl,?_⟩) (by assumption) ?_;rotate_left;(· (intro wq hq;(try dsimp only at hq);go_simp;first | done | with_reducible rfl));simp only [psA])
  refine wpAnyH_done (by kernel_rfl) ?_ _
  clear hy1
  have hR3:=hid (show RdI H b s d j dp (.slice (some ⟨g,0,none⟩) (l.length+1) cap) (l++[a]) v1 by have:=hR2.out;rw [← hnn.out] at this;exact this)
  clear hR2 hn1 g2 hadd hc
  go_wp2
  go_ret
  exact ⟨rfl,hF2.out,hR3.out⟩
 exact AllReadyH.nil
set_option maxRecDepth 10000 in
set_option maxHeartbeats 2000000 in
theorem name_arr (H b:Nat) (s:ByteArray) (d:Int) (i:Nat) (dp:Int) (v:Value) (l:List Nat) (a:Nat) (w:World) (hR:RdI H b s d i dp v (l++[a]) w) (hn:l.length≤8388608) (ha:a=91) :
  Calls Tryz.prog 184 #[.pointer (some ⟨b,0,none⟩)] w fun e w'=>e = .returned (.tuple #[])∧Below w.heap.size w w':=by
 subst ha
 obtain ⟨g,cap,rfl,hcap,hHg,hgw,hce⟩:=hR.top
 have c2:=hR.c2
 obtain ⟨n,hnn⟩:∃ n,Hid (l.length=n):=⟨_,rfl⟩
 rw [hnn.out] at hce hn hcap c2
 have hni:(n:Int)+1≤8388609:=by omega
 have hn1:(n:Int)+1-1=(n:Int):=by omega
 have hadd:(⟨g,0,none⟩:Addr).add n=⟨g,n,none⟩:=by by_cases h:n=0 <;> simp [Addr.add,h]
 have g2:(n:Int)<(n:Int)+1:=by omega
 clear hR hHg hgw hnn hcap
 go_enter Tryz.func184,Tryz.ntmps184
 go_wp2
 go_region
 go_wp2
 refine bodyPost_ret (results_none rfl _ _ _) rfl ?_
 exact ⟨rfl,by exact bw⟩
def NmP (s:ByteArray) (i:Nat) (op:List Nat) (j:Nat):Prop:=i<j∧Fl s i j op.length∧∃ k,Tk s j k∧k.op=op∧k.st=0
set_option maxRecDepth 10000 in
set_option maxHeartbeats 2000000 in
theorem name_obj (H b:Nat) (s:ByteArray) (d:Int) (i:Nat) (dp:Int) (v:Value) (l:List Nat) (w:World) (hR:RdI H b s d i dp v (l++[123]) w) (hs:s.size≤8388608) (hn:l.length≤8388608) (m:Mc) (hT:Hid (Tk s i m)) (ho:Hid (m.op=l++[123])) (hm:Hid (m.st=3∨(m.st=2∧byteAt s i≠125∧blankN (byteAt s i)=false))) :
  Calls Tryz.prog 184 #[.pointer (some ⟨b,0,none⟩)] w fun e w'=>Got H b s d dp v (l++[123]) (NmP s i (l++[123])) w e w':=by
 obtain ⟨g,cap,rfl,hcap,hHg,hgw,hce⟩:=hR.top
 have c2:=hR.c2
 have hR1:=hid (hR.kept (w':=w.drew) ((Below.refl _ _).drew))
 have hF1:=hid (hR.fr (w':=w.drew) ((Below.refl _ _).drew))
 obtain ⟨j1,hj1⟩:∃ j,Hid (IsSkip s i j):=skip_ex s s.size i (by omega) hR.li
 have hbl:=hid (blanks_calls H b s d i dp _ (l++[123]) _ hR1.out hs j1 hj1)
 obtain ⟨t1,f1⟩:=hT.out.skip (by have:=hm.out;omega) hj1.out
 rw [ho.out] at f1
 have f1':=hid f1
 have hq1:=hid (qw_name t1 (show m.st=3∨(m.st=2∧byteAt s j1≠125) by
  rcases hm.out with h | ⟨h,h2,h3⟩
  ·exact .inl h
  ·rw [skip_same hj1.out h3];exact .inr ⟨h,h2⟩) (skip_not hj1.out))
 have t1':=hid t1
 have hij:=hid hj1.out.1
 obtain ⟨n,hnn⟩:∃ n,Hid (l.length=n):=⟨_,rfl⟩
 have hsl:(Value.slice (some ⟨g,0,none⟩) (l.length+1) cap) = .slice (some ⟨g,0,none⟩) (n+1) cap:=by rw [hnn.out]
 rw [hsl] at hR1 hbl c2 ⊢
 rw [hnn.out] at hce hn hcap
 generalize hv:(Value.slice (some ⟨g,0,none⟩) (n+1) cap)=v at hR1 hbl ⊢
 rw [hv] at c2
 subst hv
 have hni:(n:Int)+1≤8388609:=by omega
 have hn1:(n:Int)+1-1=(n:Int):=by omega
 have hadd:(⟨g,0,none⟩:Addr).add n=⟨g,n,none⟩:=by by_cases h:n=0 <;> simp [Addr.add,h]
 have g2:(n:Int)<(n:Int)+1:=by omega
 clear hR hHg hgw hcap hsl t1 f1 hj1 hT hm
 go_enter Tryz.func184,Tryz.ntmps184
 go_wp2
 go_region
 clear c2 hce hn1 hadd g2
 go_wp2_with fail
 refine Calls.mono hbl.out ?_
 rintro e w2 ⟨rfl,hR2,hF2⟩
 have ht:=hid (text_calls H b s d j1 dp _ (l++[123]) (l++[123]) w2 hR2 hs true m t1' hq1 ho)
 have hF2':=hid (hF1.out.trans hF2)
 clear hbl hR2 hF2 hF1 hR1 t1' hq1
 go_wp2_with fail
 refine Calls.mono ht.out ?_
 rintro e w3 (⟨j2,rfl,hR3,hF3,hP⟩ | ⟨k,rfl,hk,hF3⟩)
 ·obtain ⟨p1,p2,k2,p3,p4,p5⟩:=hP
  have p5':k2.st=4:=p5
  obtain ⟨j3,hj3⟩:∃ j,Hid (IsSkip s j2 j):=skip_ex s s.size j2 (by omega) hR3.li
  obtain ⟨t3,f3⟩:=p3.skip (by omega) hj3.out
  have hbl:=hid (blanks_calls H b s d j2 dp _ (l++[123]) _ hR3 hs j3 hj3)
  have hF3':=hid (hF2'.out.trans hF3)
  rw [p4] at f3
  have hK3:Hid (i<j3∧Fl s i j3 (l++[123]).length∧Tk s j3 k2∧k2.op=l++[123]∧k2.st=4∧blankN (byteAt s j3)=false):=⟨by have:=hij.out;have:=hj3.out.1;omega,(f1'.out.trans p2.1).trans f3,t3,p4,p5',skip_not hj3.out⟩
  clear hR3 hF3 p1 p2 p3 p4 p5 p5' t3 f3 hj3 ht hF2' f1' hij
  go_wp2_with fail
  refine Calls.mono hbl.out ?_
  rintro e w4 ⟨rfl,hR4,hF4⟩
  have hF4':=hid (hF3'.out.trans hF4)
  by_cases hc:byteAt s j3=58
  ·have hw:=hid (want_ok H b s d j3 dp _ (l++[123]) w4 hR4 hs 58 hc (by decide))
   have hG:Hid (NmP s i (l++[123]) (j3+1)):=by
    obtain ⟨a1,a2,a3,a4,a5,a6⟩:=hK3.out
    obtain ⟨k',b1,b2,b3⟩:=colon_tk a3 a5 hc
    exact ⟨by omega,a2.snoc b1 (by rw [b2,a4];exact Nat.le_refl _),k',b1,by rw [b2,a4],b3⟩
   clear hR4 hF4 hc hbl hF3' hK3
   go_wp2_with fail
   refine Calls.mono hw.out ?_
   rintro e w5 ⟨rfl,hR5,hF5⟩
   have hR5':=hid hR5
   have hF5':=hid (hF4'.out.trans hF5)
   clear hw hR5 hF5 hF4'
   go_wp2
   go_end0
   exact .inl ⟨_,rfl,hR5'.out,hF5'.out,hG.out⟩
  ·have hw:=hid (want_no H b s d j3 dp _ (l++[123]) w4 hR4 hs 58 hc)
   have hbad:=hid (colon_off hK3.out.2.2.1 hK3.out.2.2.2.2.1 hK3.out.2.2.2.2.2 hc)
   clear hR4 hF4 hc hbl hF3' hK3
   go_wp2_with fail
   refine Calls.mono hw.out ?_
   rintro e w5 ⟨rfl,hF5⟩
   have hF5':=hid (hF4'.out.trans hF5)
   clear hw hF5 hF4'
   rw [faultE]
   go_wp2
   exact ⟨rfl,.inr ⟨_,rfl,hbad.out,hF5'.out⟩⟩
 ·have hbad:=hid (show BadAt s k∧Fr H b w w3 from ⟨hk,hF2'.out.trans hF3⟩)
  clear hk hF3 ht
  rw [faultE]
  go_wp2
  exact ⟨rfl,.inr ⟨_,rfl,hbad.out.1,hbad.out.2⟩⟩
end Go.Proofs.YtongedjlmohogaaGreatDoor
/- The reader of package valid: what is gone into,what goes on,the whole document. -/
namespace Go.Proofs.YtongedjlmohogaaGreatDoor
open Go.RowKit Go.Shelf
def St16 (H b:Nat) (s:ByteArray) (d:Nat) (w0:World) (Q:Nat→Mc→Prop) (w:World):Prop :=
 ∃ (i:Nat) (v:Value) (dp:Int) (m:Mc),RdI H b s (d:Int) i dp v m.op w∧Fr H b w0 w∧Tk s i m∧DpI s d i dp∧Q i m
theorem St16.mono {H b d:Nat} {s:ByteArray} {w0 w:World} {Q Q':Nat→Mc→Prop} (h:St16 H b s d w0 Q w) (hq:∀ i m,Q i m→Q' i m):St16 H b s d w0 Q' w:=by
 obtain ⟨i,v,dp,m,a,b,c,d,e⟩:=h
 exact ⟨i,v,dp,m,a,b,c,d,hq i m e⟩
def En16 (H b:Nat) (s:ByteArray) (d:Nat) (w:World) (Q:Nat→Mc→Prop) (e:Ending) (w':World):Prop :=
 (e = .returned (.tuple #[])∧St16 H b s d w Q w')∨(∃ k,e=faultE k∧BadAt s k∧Fr H b w w')
set_option maxRecDepth 10000 in
set_option maxHeartbeats 4000000 in
theorem enter_calls (H b:Nat) (s:ByteArray) (d:Nat) (i0:Nat) (v0:Value) (dp0:Int) (m0:Mc) (w:World) (hR:RdI H b s (d:Int) i0 dp0 v0 m0.op w) (hs:s.size≤8388608) (hT:Hid (Tk s i0 m0)) (hV:Hid (Vw s i0 m0)) (hD:Hid (DpI s d i0 dp0)) :
  Calls Tryz.prog 167 #[.pointer (some ⟨b,0,none⟩)] w fun e w'=>En16 H b s d w (fun i m=>i0<i∧Bhd s i m) e w':=by
 have hS0:Hid (St16 H b s d w (fun i m=>i0≤i∧Vw s i m) w):=⟨i0,v0,dp0,m0,hR,Fr.refl _ _ _,hT.out,hD.out,Nat.le_refl _,hV.out⟩
 clear hR hT hV hD
 go_enter Tryz.func167,Tryz.ntmps167
 go_wp2_with fail
 go_loopw [] (fun wr=>Hid (St16 H b s d w (fun i m=>i0≤i∧Vw s i m) wr)) (fun wr=>s.size-atN b wr)
 case atStart=>exact hS0
 case round =>
  clear hS0
  obtain ⟨i,v,dp,m,hR,hF,hT,hD,h0,hV⟩:=hrel.out
  have hat:=hid hR.atN
  obtain ⟨j,hj⟩:∃ j,Hid (IsSkip s i j):=skip_ex s s.size i (by omega) hR.li
  have hbl:=hid (blanks_calls H b s d i dp v m.op wr hR hs j hj)
  have hm5:m.st≤5:=by rcases hV with h | ⟨h,-⟩ <;> omega
  obtain ⟨t1,f1⟩:=hT.skip hm5 hj.out
  have hV1:=hid (hV.skip hj.out)
  have hD1:=hid (hD.flat hT hj.out.1 f1)
  have hT1:=hid t1
  have hnb:=hid (skip_not hj.out)
  have hij:=hid hj.out.1
  have hjs:=hid hj.out.2.1
  have h0':=hid h0
  have hF':=hid hF
  clear hR hF hT hD h0 hV hrel t1 f1 hj hm5
  go_wp2_with fail
  refine Calls.mono hbl.out ?_
  rintro e w1 ⟨rfl,hR1,hF1⟩
  have hF1':=hid (hF'.out.trans hF1)
  have hl:=hid (lookR_calls H b s d j dp v m.op w1 hR1 hs)
  have hR1':=hid hR1
  clear hbl hR1 hF1 hF'
  by_cases hop:byteAt s j=91∨byteAt s j=123
  ·have hjl:j<s.size:=byteAt_in (by omega)
   obtain ⟨k,t2,o2,s2⟩:=open_tk hT1.out hV1.out hop
   obtain ⟨a,ha⟩:∃ a,byteAt s j=a:=⟨_,rfl⟩
   rw [ha] at hop o2 s2 hl
   have hln:=hT1.out.len
   have hlen:m.op.length≤8388608:=by have:=hjs.out;omega
   obtain ⟨DP,hDP⟩:∃ DP:Int,Hid (DP=if (m.op.length:Int)=(d:Int)∧dp<0 then (j:Int) else dp):=⟨_,rfl⟩
   have hD2:Hid (DpI s d (j+1) DP):=by
    have:=DpI.up hT1.out t2 (by rw [o2];simp) hD1.out
    have e:DP=(if m.op.length=d∧dp<0 then (j:Int) else dp):=by
     rw [hDP.out]
     by_cases h1:m.op.length=d∧dp<0
     ·rw [if_pos h1,if_pos ⟨by omega,h1.2⟩]
     ·rw [if_neg h1,if_neg (fun x=>h1 ⟨by omega,x.2⟩)]
    show DpI s d (j+1) DP
    rw [e]
    exact this
   have hopn:=hid (fun u hu=>open_calls H b s d j dp v m.op u hu hs hjl hlen a DP hDP)
   have ht2:=hid t2
   have ho2:=hid o2
   have hs2:=hid s2
   have hop':=hid hop
   clear t2 o2 s2 hln hDP hD1 hV1 hnb
   -- behind the bracket
   have tail:∀ (w2:World),Fr H b w w2→(∃ v',RdI H b s d (j+1) DP v' (m.op++[a]) w2) →
     Hid (∃ j2,IsSkip s (j+1) j2∧((byteAt s j2=a+2∧∃ k5,Tk s (j2+1) k5∧k5.op=m.op∧k5.st=5∧DpI s d (j2+1) DP)∨(byteAt s j2≠a+2∧blankN (byteAt s j2)=false∧∃ k5,Tk s j2 k5∧k5.op=m.op++[a]∧k5.st=(if a=91 then 1 else 2)∧DpI s d j2 DP))):=by
    intro w2 _ _
    obtain ⟨j2,hj2⟩:=skip_ex s s.size (j+1) (by omega) hjl
    have hcw:Cw s (j+1) k:=by
     rcases hop'.out with h | h
     ·exact .inl (by rw [hs2.out,if_pos h])
     ·exact .inr (.inl (by rw [hs2.out,if_neg (by omega)]))
    obtain ⟨m',a1,a2,a3,a4,a5,a6,a7⟩:=Cw.skip ht2.out hcw hj2
    have hD3:=hD2.out.flat ht2.out hj2.1 a4
    refine ⟨j2,hj2,?_⟩
    by_cases hc:byteAt s j2=a+2
    ·left
     obtain ⟨k5,b1,b2,b3⟩:=Cw.shut a1 a2 (a3.trans ho2.out) hc
     exact ⟨hc,k5,b1,b2,b3,hD3.flat a1 (by omega) (Fl.one b1 (by rw [b2,a3,ho2.out];simp))⟩
    ·right
     refine ⟨hc,skip_not hj2,m',a1,a3.trans ho2.out,?_,hD3⟩
     rcases hop'.out with h | h
     ·rw [if_pos h];exact a5 (by rw [hs2.out,if_pos h])
     ·rw [if_neg (by omega)];exact a6 (by rw [hs2.out,if_neg (by omega)])
   have tail':=hid tail
   clear tail ho2 hs2 ht2 hD2
   rcases hop with rfl | rfl
   ·go_wp2_with fail
    refine Calls.mono hl.out ?_
    rintro e w2 ⟨rfl,hb⟩
    have hop2:=hid (hopn.out w2 (hR1'.out.kept hb))
    have hF2:=hid (hF1'.out.trans (hR1'.out.fr hb))
    clear hl hb hopn hR1' hF1'
    go_wp2_with fail
    refine Calls.mono hop2.out ?_
    rintro e w3 ⟨rfl,hF3,hx3⟩
    have hF3':=hid (hF2.out.trans hF3)
    have hx:=tail'.out w3 hF3'.out hx3
    obtain ⟨v3,hR3⟩:=hx3
    obtain ⟨j2,hj2,hx2⟩:=hx.out
    have hj2':=hid hj2
    have hge:=hid hj2.1
    rcases hx2 with ⟨hc,k5,b1,b2,b3,b4⟩ | ⟨hc,hnb,k5,b1,b2,b3,b4⟩
    ·have hcl:=hid (closes_yes H b s d (j+1) DP v3 m.op 91 w3 hR3 hs hlen j2 hj2' hc)
     have hQ:Hid (Tk s (j2+1) k5∧k5.op=m.op∧k5.st=5∧DpI s d (j2+1) DP):=⟨b1,b2,b3,b4⟩
     clear hR3 hF3 hc b1 b2 b3 b4 hx tail' hj2 hj2' hop2 hF2
     go_wp2_with fail
     refine Calls.mono hcl.out ?_
     rintro e w4 ⟨rfl,hF4,v4,hR4⟩
     have hG:Hid (En16 H b s d w (fun i m=>i0<i∧Bhd s i m) (.returned (.tuple #[])) w4):=.inl ⟨rfl,j2+1,v4,DP,k5,by rw [hQ.out.2.1];exact hR4,hF3'.out.trans hF4,hQ.out.1,hQ.out.2.2.2,by have:=hge.out;have:=h0'.out;have:=hij.out;omega,bhd_five hQ.out.2.2.1⟩
     clear hcl hR4 hF4 hF3' hQ
     go_wp2
     refine bodyPost_ret (results_none rfl _ _ _) rfl ?_
     exact hG.out
    ·have hcl:=hid (closes_no H b s d (j+1) DP v3 m.op 91 w3 hR3 hs hlen j2 hj2' hc)
     have hQ:Hid (Tk s j2 k5∧k5.op=m.op++[91]∧Vw s j2 k5∧DpI s d j2 DP):=⟨b1,b2,.inr ⟨b3,hc,hnb⟩,b4⟩
     clear hR3 hF3 hc b1 b2 b3 b4 hx tail' hj2 hj2' hop2 hF2 hnb
     go_wp2_with fail
     refine Calls.mono hcl.out ?_
     rintro e w4 ⟨rfl,hF4,hR4⟩
     have hnm:=hid (name_arr H b s d j2 DP v3 m.op 91 w4 hR4 hlen rfl)
     have hR4':=hid hR4
     have hF4':=hid (hF3'.out.trans hF4)
     clear hcl hR4 hF4 hF3'
     go_wp2_with fail
     refine Calls.mono hnm.out ?_
     rintro e w5 ⟨rfl,hb⟩
     have hG:Hid (St16 H b s d w (fun i m=>i0≤i∧Vw s i m) w5):=⟨j2,v3,DP,k5,by rw [hQ.out.2.1];exact hR4'.out.kept hb,hF4'.out.trans (hR4'.out.fr hb),hQ.out.1,hQ.out.2.2.2,by have:=hge.out;have:=h0'.out;have:=hij.out;omega,hQ.out.2.2.1⟩
     have hA:=hid ((hR4'.out.kept hb).atN)
     have hL:=hid ((hR4'.out.kept hb).li)
     clear hnm hb hR4' hF4' hQ
     go_wp2_with fail
     go_round
     case rel=>exact hG
     case measure=>have:=hge.out;have:=hij.out;have:=hL.out;rw [hA.out,hat.out];omega
   ·go_wp2_with fail
    refine Calls.mono hl.out ?_
    rintro e w2 ⟨rfl,hb⟩
    have hop2:=hid (hopn.out w2 (hR1'.out.kept hb))
    have hF2:=hid (hF1'.out.trans (hR1'.out.fr hb))
    clear hl hb hopn hR1' hF1'
    go_wp2_with fail
    refine Calls.mono hop2.out ?_
    rintro e w3 ⟨rfl,hF3,hx3⟩
    have hF3':=hid (hF2.out.trans hF3)
    have hx:=tail'.out w3 hF3'.out hx3
    obtain ⟨v3,hR3⟩:=hx3
    obtain ⟨j2,hj2,hx2⟩:=hx.out
    have hj2':=hid hj2
    have hge:=hid hj2.1
    rcases hx2 with ⟨hc,k5,b1,b2,b3,b4⟩ | ⟨hc,hnb,k5,b1,b2,b3,b4⟩
    ·have hcl:=hid (closes_yes H b s d (j+1) DP v3 m.op 123 w3 hR3 hs hlen j2 hj2' hc)
     have hQ:Hid (Tk s (j2+1) k5∧k5.op=m.op∧k5.st=5∧DpI s d (j2+1) DP):=⟨b1,b2,b3,b4⟩
     clear hR3 hF3 hc b1 b2 b3 b4 hx tail' hj2 hj2' hop2 hF2
     go_wp2_with fail
     refine Calls.mono hcl.out ?_
     rintro e w4 ⟨rfl,hF4,v4,hR4⟩
     have hG:Hid (En16 H b s d w (fun i m=>i0<i∧Bhd s i m) (.returned (.tuple #[])) w4):=.inl ⟨rfl,j2+1,v4,DP,k5,by rw [hQ.out.2.1];exact hR4,hF3'.out.trans hF4,hQ.out.1,hQ.out.2.2.2,by have:=hge.out;have:=h0'.out;have:=hij.out;omega,bhd_five hQ.out.2.2.1⟩
     clear hcl hR4 hF4 hF3' hQ
     go_wp2
     refine bodyPost_ret (results_none rfl _ _ _) rfl ?_
     exact hG.out
    ·have hcl:=hid (closes_no H b s d (j+1) DP v3 m.op 123 w3 hR3 hs hlen j2 hj2' hc)
     have hQ:Hid (Tk s j2 k5∧k5.op=m.op++[123]∧(k5.st=3∨(k5.st=2∧byteAt s j2≠125∧blankN (byteAt s j2)=false))∧DpI s d j2 DP):=⟨b1,b2,.inr ⟨b3,hc,hnb⟩,b4⟩
     clear hR3 hF3 hc b1 b2 b3 b4 hx tail' hj2 hj2' hop2 hF2 hnb
     go_wp2_with fail
     refine Calls.mono hcl.out ?_
     rintro e w4 ⟨rfl,hF4,hR4⟩
     have hnm:=hid (name_obj H b s d j2 DP v3 m.op w4 hR4 hs hlen k5 hQ.out.1 hQ.out.2.1 hQ.out.2.2.1)
     have hF4':=hid (hF3'.out.trans hF4)
     clear hcl hR4 hF4 hF3'
     go_wp2_with fail
     refine Calls.mono hnm.out ?_
     rintro e w5 (⟨j5,rfl,hR5,hF5,p1,p2,k6,p3,p4,p5⟩ | ⟨k,rfl,hk,hF5⟩)
     ·have hG:Hid (St16 H b s d w (fun i m=>i0≤i∧Vw s i m) w5):=⟨j5,v3,DP,k6,by rw [p4];exact hR5,hF4'.out.trans hF5,p3,hQ.out.2.2.2.flat hQ.out.1 (by omega) (by rw [hQ.out.2.1];exact p2),by have:=hge.out;have:=h0'.out;have:=hij.out;omega,.inl p5⟩
      have hA:=hid hR5.atN
      have hL:=hid hR5.li
      have hp1:=hid p1
      clear hnm hR5 hF5 p1 p2 p3 p4 p5 hF4' hQ
      go_wp2_with fail
      go_round
      case rel=>exact hG
      case measure=>have:=hge.out;have:=hij.out;have:=hL.out;have:=hp1.out;rw [hA.out,hat.out];omega
     ·have hbad:=hid (show BadAt s k∧Fr H b w w5 from ⟨hk,hF4'.out.trans hF5⟩)
      clear hk hF5 hnm
      rw [faultE]
      go_wp2
      exact ⟨rfl,.inr ⟨_,rfl,hbad.out.1,hbad.out.2⟩⟩
  ·have h91:byteAt s j≠91:=fun h=>hop (.inl h)
   have h123:byteAt s j≠123:=fun h=>hop (.inr h)
   have e1:((byteAt s j:Int) == 91)=false:=by simp;omega
   have e2:((byteAt s j:Int) == 123)=false:=by simp;omega
   have hsc:=hid (fun u hu=>scalar_value H b s d j dp v m.op m.op u hu hs m hT1 hV1 rfl hnb h91 h123)
   clear h91 h123 hop hV1 hnb
   generalize byteAt s j=y at hl e1 e2
   go_wp2_with fail
   refine Calls.mono hl.out ?_
   rintro e w2 ⟨rfl,hb⟩
   have hsv:=hid (hsc.out w2 (hR1'.out.kept hb))
   have hF2:=hid (hF1'.out.trans (hR1'.out.fr hb))
   clear hl hb hsc hR1' hF1'
   go_wp2_with fail
   refine Calls.mono hsv.out ?_
   rintro e w3 (⟨j3,rfl,hR3,hF3,p1,p2,k3,p3,p4,p5⟩ | ⟨k,rfl,hk,hF3⟩)
   ·have hG:Hid (En16 H b s d w (fun i m=>i0<i∧Bhd s i m) (.returned (.tuple #[])) w3):=.inl ⟨rfl,j3,v,dp,k3,by rw [p4];exact hR3,hF2.out.trans hF3,p3,hD1.out.flat hT1.out (by omega) p2,by have:=h0'.out;have:=hij.out;omega,p5⟩
    clear hsv hR3 hF3 p1 p2 p3 p4 p5 hF2
    go_wp2
    refine bodyPost_ret (results_none rfl _ _ _) rfl ?_
    exact hG.out
   ·have hbad:=hid (show BadAt s k∧Fr H b w w3 from ⟨hk,hF2.out.trans hF3⟩)
    clear hk hF3 hsv
    rw [faultE]
    go_wp2
    exact ⟨rfl,.inr ⟨_,rfl,hbad.out.1,hbad.out.2⟩⟩
end Go.Proofs.YtongedjlmohogaaGreatDoor
/- The reader of package valid: what goes on behind a value;the whole document. -/
namespace Go.Proofs.YtongedjlmohogaaGreatDoor
open Go.RowKit Go.Shelf
def Gn16 (H b:Nat) (s:ByteArray) (d:Nat) (i0:Nat) (w:World) (e:Ending) (w':World):Prop :=
 (e = .returned (.bool true)∧St16 H b s d w (fun i m=>i0≤i∧Vw s i m) w')∨(e = .returned (.bool false)∧St16 H b s d w (fun i m=>i0≤i∧Bhd s i m∧m.op=[]) w')∨(∃ k,e=faultE k∧BadAt s k∧Fr H b w w')
set_option maxRecDepth 10000 in
set_option maxHeartbeats 4000000 in
theorem goesOn_calls (H b:Nat) (s:ByteArray) (d:Nat) (i0:Nat) (v0:Value) (dp0:Int) (m0:Mc) (w:World) (hR:RdI H b s (d:Int) i0 dp0 v0 m0.op w) (hs:s.size≤8388608) (hT:Hid (Tk s i0 m0)) (hB:Hid (Bhd s i0 m0)) (hD:Hid (DpI s d i0 dp0)) :
  Calls Tryz.prog 166 #[.pointer (some ⟨b,0,none⟩)] w fun e w'=>Gn16 H b s d i0 w e w':=by
 have hS0:Hid (St16 H b s d w (fun i m=>i0≤i∧Bhd s i m) w):=⟨i0,v0,dp0,m0,hR,Fr.refl _ _ _,hT.out,hD.out,Nat.le_refl _,hB.out⟩
 clear hR hT hB hD
 go_enter Tryz.func166,Tryz.ntmps166
 go_wp2_with fail
 go_loopw [] (fun wr=>Hid (St16 H b s d w (fun i m=>i0≤i∧Bhd s i m) wr)) (fun wr=>s.size-atN b wr)
 case atStart=>exact hS0
 case round =>
  clear hS0
  obtain ⟨i,v,dp,m,hR,hF,hT,hD,h0,hB⟩:=hrel.out
  have hat:=hid hR.atN
  have hli:=hid hR.li
  obtain ⟨o,cap,hv⟩:=own_slice hR.row
  by_cases he:m.op=[]
  ·have hv':v = .slice o 0 cap:=by rw [hv,he];rfl
   subst hv'
   have c2:=hR.c2
   have hG:Hid (Gn16 H b s d i0 w (.returned (.bool false)) wr):=.inr (.inl ⟨rfl,i,_,dp,m,hR,hF,hT,hD,h0,hB,he⟩)
   clear hR hF hT hD h0 hB hrel he hv hat
   go_wp2
   go_ret
   exact hG.out
  ·obtain ⟨l,a,hla,-⟩:=top_of he
   have hln:=hT.len
   have hll:m.op.length=l.length+1:=by rw [hla];simp
   have hlen:l.length≤8388608:=by have:=hR.li;omega
   have ha:a=91∨a=123:=hT.fit2.op a (by rw [hla];simp)
   obtain ⟨j,hj⟩:∃ j,Hid (IsSkip s i j):=skip_ex s s.size i (by omega) hR.li
   obtain ⟨m',a1,a2,a3,a4,-,-,a7⟩:=Cw.skip hT (.inr (.inr hB)) hj.out
   have hB':=hid (a7 hB.1)
   have hD1:=hid (hD.flat hT hj.out.1 a4)
   have hT1:=hid a1
   have ho1:=hid (a3.trans hla)
   have hnb:=hid (skip_not hj.out)
   have hij:=hid hj.out.1
   have h0':=hid h0
   have hF':=hid hF
   have hRl:=hR
   rw [hla] at hRl
   obtain ⟨n,hn⟩:∃ n,Hid (l.length=n):=⟨_,rfl⟩
   have hv':v = .slice o (n+1) cap:=by rw [hv,hll,hn.out]
   have c2:=hR.c2
   rw [hv'] at c2
   have hni:(n:Int)+1≤8388609:=by have:=hn.out;omega
   have hnp:(0:Int)<(n:Int)+1:=by omega
   by_cases hc:byteAt s j=a+2
   ·have hcl:=hid (closes_yes H b s d i dp v l a wr hRl hs hlen j hj hc)
    obtain ⟨k5,b1,b2,b3⟩:=Cw.shut a1 a2 (a3.trans hla) hc
    have hQ:Hid (Tk s (j+1) k5∧k5.op=l∧k5.st=5∧DpI s d (j+1) dp):=⟨b1,b2,b3,hD1.out.flat a1 (by omega) (Fl.one b1 (by rw [b2,a3,hll];omega))⟩
    have hjl:=hid (show j<s.size from byteAt_in (by omega))
    clear hR hRl hF hT hD h0 hB hrel he hv hv' hla hln hll ha a1 a2 a3 a4 a7 hj hc b1 b2 b3 hD1 hT1 ho1 hB'
    go_wp2_with fail
    refine Calls.mono hcl.out ?_
    rintro e w1 ⟨rfl,hF1,v1,hR1⟩
    have hG:Hid (St16 H b s d w (fun i m=>i0≤i∧Bhd s i m) w1):=⟨j+1,v1,dp,k5,by rw [hQ.out.2.1];exact hR1,hF'.out.trans hF1,hQ.out.1,hQ.out.2.2.2,by have:=h0'.out;have:=hij.out;omega,bhd_five hQ.out.2.2.1⟩
    have hA:=hid hR1.atN
    clear hcl hF1 hR1 hQ hF' c2
    go_wp2_with fail
    go_round
    case rel=>exact hG
    case measure=>have:=hij.out;have:=hjl.out;rw [hA.out,hat.out];omega
   ·have hcl:=hid (closes_no H b s d i dp v l a wr hRl hs hlen j hj hc)
    have hc':=hid hc
    have ha':=hid ha
    clear hR hRl hF hT hD h0 hB hrel he hv hv' hla hln hll ha a1 a2 a3 a4 a7 hj hc
    go_wp2_with fail
    refine Calls.mono hcl.out ?_
    rintro e w1 ⟨rfl,hF1,hR1⟩
    have hF1':=hid (hF'.out.trans hF1)
    clear hcl hF1 hF' c2
    by_cases h44:byteAt s j=44
    ·have hw:=hid (want_ok H b s d j dp v (l++[a]) w1 hR1 hs 44 h44 (by decide))
     obtain ⟨k2,b1,b2,b3⟩:=comma_tk hT1.out hB'.out ho1.out h44
     have hD2:=hid (hD1.out.flat hT1.out (by omega) (Fl.one b1 (by rw [b2];exact Nat.le_refl _)))
     have hT2:=hid b1
     have ho2:=hid (b2.trans ho1.out)
     have hs2:=hid b3
     clear hR1 b1 b2 b3 h44 hc' hT1 hB' ho1 hnb hD1
     go_wp2_with fail
     refine Calls.mono hw.out ?_
     rintro e w2 ⟨rfl,hR2,hF2⟩
     have hF2':=hid (hF1'.out.trans hF2)
     clear hw hF2 hF1'
     rcases ha'.out with h | h
     ·have hnm:=hid (name_arr H b s d (j+1) dp v l a w2 hR2 hlen h)
      have hs3:Hid (k2.st=0):=by show _=_;rw [hs2.out,if_pos h]
      have hR2':=hid hR2
      clear hR2 h ha'
      go_wp2_with fail
      refine Calls.mono hnm.out ?_
      rintro e w3 ⟨rfl,hb⟩
      have hG:Hid (Gn16 H b s d i0 w (.returned (.bool true)) w3):=.inl ⟨rfl,j+1,v,dp,k2,by rw [ho2.out];exact hR2'.out.kept hb,hF2'.out.trans (hR2'.out.fr hb),hT2.out,hD2.out,by have:=h0'.out;have:=hij.out;omega,.inl hs3.out⟩
      clear hnm hb hR2' hF2'
      go_wp2
      go_ret
      exact hG.out
     ·have hs3:Hid (k2.st=3):=by show _=_;rw [hs2.out,if_neg (by omega)]
      subst h
      have hnm:=hid (name_obj H b s d (j+1) dp v l w2 hR2 hs hlen k2 hT2 ho2 (.inl hs3.out))
      clear hR2 ha'
      go_wp2_with fail
      refine Calls.mono hnm.out ?_
      rintro e w3 (⟨j5,rfl,hR5,hF5,p1,p2,k6,p3,p4,p5⟩ | ⟨k,rfl,hk,hF5⟩)
      ·have hG:Hid (Gn16 H b s d i0 w (.returned (.bool true)) w3):=.inl ⟨rfl,j5,v,dp,k6,by rw [p4];exact hR5,hF2'.out.trans hF5,p3,hD2.out.flat hT2.out (by omega) (by rw [ho2.out];exact p2),by have:=h0'.out;have:=hij.out;omega,.inl p5⟩
       clear hnm hR5 hF5 p1 p2 p3 p4 p5 hF2'
       go_wp2
       go_ret
       exact hG.out
      ·have hbad:=hid (show BadAt s k∧Fr H b w w3 from ⟨hk,hF2'.out.trans hF5⟩)
       clear hk hF5 hnm
       rw [faultE]
       go_wp2
       exact ⟨rfl,.inr (.inr ⟨_,rfl,hbad.out.1,hbad.out.2⟩)⟩
    ·have hw:=hid (want_no H b s d j dp v (l++[a]) w1 hR1 hs 44 h44)
     have hbad:=hid (comma_off hT1.out hB'.out ho1.out hnb.out hc'.out h44)
     clear hR1 h44 hc' hT1 hB' ho1 hnb hD1
     go_wp2_with fail
     refine Calls.mono hw.out ?_
     rintro e w2 ⟨rfl,hF2⟩
     have hF2':=hid (hF1'.out.trans hF2)
     clear hw hF2 hF1'
     rw [faultE]
     go_wp2
     exact ⟨rfl,.inr (.inr ⟨_,rfl,hbad.out,hF2'.out⟩)⟩
def DocI (H b:Nat) (s:ByteArray) (d:Nat) (w:World) (f:Value) (wr:World):Prop :=
 (f = .bool true∧St16 H b s d w (fun i m=>Vw s i m) wr)∨(f = .bool false∧St16 H b s d w (fun i m=>Bhd s i m∧m.op=[]) wr)
def Doc16 (H b:Nat) (s:ByteArray) (d:Nat) (w:World) (e:Ending) (w':World):Prop :=
 (e = .returned (.tuple #[])∧St16 H b s d w (fun i m=>i=s.size∧Bh m∧m.op=[]) w')∨(∃ k,e=faultE k∧BadAt s k∧Fr H b w w')
set_option maxRecDepth 10000 in
set_option maxHeartbeats 4000000 in
theorem document_calls (H b:Nat) (s:ByteArray) (d:Nat) (v0:Value) (w:World) (hR:RdI H b s (d:Int) 0 (-1) v0 [] w) (hs:s.size≤8388608) :
  Calls Tryz.prog 154 #[.pointer (some ⟨b,0,none⟩)] w fun e w'=>Doc16 H b s d w e w':=by
 have hS0:Hid (DocI H b s d w (.bool true) w):=.inl ⟨rfl,0,v0,-1,mc0,hR,Fr.refl _ _ _,tk0 s,dpI0 s d,.inl rfl⟩
 clear hR
 go_enter Tryz.func154,Tryz.ntmps154
 go_wp2_with fail
 go_loopw [2] (fun f wr=>Hid (DocI H b s d w f wr)) (fun _ wr=>s.size-atN b wr)
 case atStart=>exact hS0
 case round =>
  clear hS0
  rcases hrel.out with ⟨rfl,i,v,dp,m,hR,hF,hT,hD,hV⟩ | ⟨rfl,i,v,dp,m,hR,hF,hT,hD,hB,ho⟩
  ·have hat:=hid hR.atN
   have hen:=hid (enter_calls H b s d i v dp m wr hR hs hT hV hD)
   have hF':=hid hF
   clear hR hF hT hD hV hrel
   go_wp2_with fail
   refine Calls.mono hen.out ?_
   rintro e w1 (⟨rfl,i1,v1,dp1,m1,hR1,hF1,hT1,hD1,hi1,hB1⟩ | ⟨k,rfl,hk,hF1⟩)
   ·have hgo:=hid (goesOn_calls H b s d i1 v1 dp1 m1 w1 hR1 hs hT1 hB1 hD1)
    have hF1':=hid (hF'.out.trans hF1)
    have hi1':=hid hi1
    clear hR1 hF1 hT1 hD1 hi1 hB1 hen hF'
    go_wp2_with fail
    refine Calls.mono hgo.out ?_
    rintro e w2 (⟨rfl,i2,v2,dp2,m2,hR2,hF2,hT2,hD2,hi2,hV2⟩ | ⟨rfl,i2,v2,dp2,m2,hR2,hF2,hT2,hD2,hi2,hB2,ho2⟩ | ⟨k,rfl,hk,hF2⟩)
    ·have hG:Hid (DocI H b s d w (.bool true) w2):=.inl ⟨rfl,i2,v2,dp2,m2,hR2,hF1'.out.trans hF2,hT2,hD2,hV2⟩
     have hA:=hid (show atN b w2=i2∧i<i2∧i2≤s.size from ⟨hR2.atN,by have:=hi1'.out;omega,hR2.li⟩)
     clear hR2 hF2 hT2 hD2 hi2 hV2 hgo hF1'
     go_wp2_with fail
     go_round
     case rel=>exact hG
     case measure=>have:=hA.out;rw [hA.out.1,hat.out];omega
    ·have hG:Hid (DocI H b s d w (.bool false) w2):=.inr ⟨rfl,i2,v2,dp2,m2,hR2,hF1'.out.trans hF2,hT2,hD2,hB2,ho2⟩
     have hA:=hid (show atN b w2=i2∧i<i2∧i2≤s.size from ⟨hR2.atN,by have:=hi1'.out;omega,hR2.li⟩)
     clear hR2 hF2 hT2 hD2 hi2 hB2 ho2 hgo hF1'
     go_wp2_with fail
     go_round
     case rel=>exact hG
     case measure=>have:=hA.out;rw [hA.out.1,hat.out];omega
    ·have hbad:=hid (show BadAt s k∧Fr H b w w2 from ⟨hk,hF1'.out.trans hF2⟩)
     clear hk hF2 hgo
     rw [faultE]
     go_wp2
     exact ⟨rfl,.inr ⟨_,rfl,hbad.out.1,hbad.out.2⟩⟩
   ·have hbad:=hid (show BadAt s k∧Fr H b w w1 from ⟨hk,hF'.out.trans hF1⟩)
    clear hk hF1 hen
    rw [faultE]
    go_wp2
    exact ⟨rfl,.inr ⟨_,rfl,hbad.out.1,hbad.out.2⟩⟩
  ·obtain ⟨j,hj⟩:∃ j,Hid (IsSkip s i j):=skip_ex s s.size i (by omega) hR.li
   have hbl:=hid (blanks_calls H b s d i dp v m.op wr hR hs j hj)
   obtain ⟨m',t1,b1,o1,f1⟩:=hT.skipB hB hj.out
   have hK:Hid (Tk s j m'∧Bhd s j m'∧m'.op=[]∧DpI s d j dp∧blankN (byteAt s j)=false∧m'.op=m.op):=⟨t1,b1,o1.trans ho,hD.flat hT hj.out.1 f1,skip_not hj.out,o1⟩
   have hF':=hid hF
   have hjs:j≤s.size:=hj.out.2.1
   clear hR hF hT hD hB ho hrel t1 b1 o1 f1 hj
   go_wp2_with fail
   refine Calls.mono hbl.out ?_
   rintro e w1 ⟨rfl,hR1,hF1⟩
   have c0:=hR1.c0
   have c1:=hR1.c1
   have hR2:=hid (hR1.kept (w':=w1.drew) ((Below.refl _ _).drew))
   have hF2:=hid ((hF'.out.trans hF1).trans (hR1.fr (w':=w1.drew) ((Below.refl _ _).drew)))
   clear hR1 hF1 hF' hbl
   by_cases hjl:j<s.size
   ·have e1:decide ((j:Int)<(s.size:Int))=true:=by simp;omega
    have hbad:=hid (end_off hK.out.1 hK.out.2.1 hK.out.2.2.1 hK.out.2.2.2.2.1 hjl)
    have hfl:=hid (fail_calls H b s d j dp v m.op _ hR2.out)
    have hl1:(j:Int)<(s.size:Int):=by omega
    clear hK
    go_wp2_with fail
    go_region
    go_wp2_with fail
    refine Calls.mono hfl.out ?_
    rintro e w3 ⟨rfl,hw⟩
    rw [hw,faultE]
    go_wp2
    exact ⟨rfl,.inr ⟨_,rfl,hbad.out,hF2.out⟩⟩
   ·have e1:decide ((j:Int)<(s.size:Int))=false:=by simp;omega
    obtain rfl:j=s.size:=by omega
    have hG:Hid (Doc16 H b s d w (.returned (.tuple #[])) w1.drew):=.inl ⟨rfl,s.size,v,dp,m',by rw [hK.out.2.2.2.2.2];exact hR2.out,hF2.out,hK.out.1,hK.out.2.2.2.1,rfl,hK.out.2.1.1,hK.out.2.2.1⟩
    clear hK hR2 hF2
    go_wp2_with fail
    go_region
    go_wp2
    go_end0
    exact hG.out
end Go.Proofs.YtongedjlmohogaaGreatDoor
/- Package valid: where a reader gives up;the verdict. -/
namespace Go.Proofs.YtongedjlmohogaaGreatDoor
open Go.RowKit Go.Shelf
theorem assert16 (v:Value) (xT:TypeId) (w:World):(Instr.typeAssert (.iface 202 v) xT 202 true).run Tryz.prog w = .ok (.tuple #[v,.bool true]) w:=by
 simp [Instr.typeAssert,run_underlying Tryz.underlying202,go_sem,Result.andThen]
set_option maxRecDepth 10000 in
theorem idle16 (p:Addr) (w:World) :
  CallsD Tryz.prog 165 #[.pointer (some p)] .returning w fun e u' w'=>e = .returned (.tuple #[])∧u' = .returning∧w'=w:=by
 refine callsD_of_wpS Tryz.func165 rfl fun c₀ cs hu=>?_
 apply wpS_seq
 apply wpS_region
 simp [wpOpsS,go_sem,recoverD,hu,Tryz.ntmps165,Exit.thenS]
 refine wpS_of_wp ?_
 simp only [Array.replicate,List.replicate,List.setIfInBounds_toArray,List.set_cons_zero,List.set_cons_succ,List.append_toArray,List.cons_append,List.nil_append]
 go_wp2
 cases c₀
 simp_all [bodyPostS,results,Tryz.results165]
set_option maxRecDepth 10000 in
theorem catch16 (q:Nat) (x:Value) (k:Nat) (older:List PanicEntry) (w:World) (hq:q<w.heap.size) (hp:w.cell? ⟨q,0,none⟩=some x) (hzp:w.frozen? ⟨q,0,none⟩=false) :
  CallsD Tryz.prog 165 #[.pointer (some ⟨q,0,none⟩)] (.panicking ({ v:=.iface 202 (.agg #[.int .i64 (k:Int)]),recovered:=false } :: older)) w fun e u' w' =>
   e = .returned (.tuple #[])∧u' = .panicking ({ v:=.iface 202 (.agg #[.int .i64 (k:Int)]),recovered:=true } :: older)∧w'=(w.setCell ⟨q,0,none⟩ (.int .i64 (k:Int))).alloc (.cells #[.int .i64 (k:Int)] 202):=by
 refine callsD_of_wpS Tryz.func165 rfl fun c₀ cs hu=>?_
 apply wpS_seq
 apply wpS_region
 simp [wpOpsS,go_sem,recoverD,hu,Tryz.ntmps165,Exit.thenS]
 refine wpS_of_wp ?_
 simp only [Array.replicate,List.replicate,List.setIfInBounds_toArray,List.set_cons_zero,List.set_cons_succ,List.append_toArray,List.cons_append,List.nil_append]
 have has:=fun v xT w=>assert16 v xT w
 have hc2:(w.alloc (.cells #[.int .i64 (k:Int)] 202)).cell? ⟨q,0,none⟩=some x:=by rw [World.cell?_alloc_past _ _ _ hq];exact hp
 have hz2:(w.alloc (.cells #[.int .i64 (k:Int)] 202)).frozen? ⟨q,0,none⟩=false:=by rw [World.frozen?_alloc_past _ _ _ hq];exact hzp
 go_wp2
 clear hu
 cases c₀
 simp_all [bodyPostS,results,Tryz.results165]
def Stp16 (b:Nat) (s:ByteArray) (d:Nat) (w:World) (e:Ending) (w':World):Prop :=
 Fr w.heap.size b w w'∧((∃ (m:Mc) (dp:Int) (v:Value),e = .returned (.int .i64 (-1))∧At w' b #[.string s,.int .i64 (s.size:Int),v,.int .i64 (d:Int),.int .i64 dp] 191∧Tk s s.size m∧Bh m∧m.op=[]∧DpI s d s.size dp) ∨
  (∃ k:Nat,e = .returned (.int .i64 (k:Int))∧BadAt s k))
theorem own_nil (H:Nat) (w:World):w.ownsRow H 5 1 (.slice none 0 0) 0 []:=⟨rfl,.inl ⟨rfl,rfl⟩⟩
set_option maxRecDepth 10000 in
set_option maxHeartbeats 4000000 in
theorem stopped_calls (b:Nat) (s:ByteArray) (d:Nat) (w:World) (hA:At w b #[.string s,.int .i64 0,.slice none 0 0,.int .i64 (d:Int),.int .i64 (-1)] 191) (hs:s.size≤8388608) :
  Calls Tryz.prog 153 #[.func (.func 154) #[.pointer (some ⟨b,0,none⟩)] #[]] w fun e w'=>Stp16 b s d w e w':=by
 have hmf:∀ (fn:Fn) (first cap:Array Value) (w:World),(Instr.makeFunc fn first cap).run Tryz.prog w = .ok (.func fn first cap) w:=fun _ _ _ _=>rfl
 have hen:∀ args w,(callFunc 154 args).run Tryz.prog w = .ok (.enter 154 args) w:=fun args w=>by kernel_rfl
 have hlt:=hA.lt
 have hR1:=hid (show RdI (w.heap.size+1) b s (d:Int) 0 (-1) (.slice none 0 0) [] (w.alloc (.cells #[.int .i64 0] 3)) from ⟨hA.alloc _,own_nil _ _,by omega,by rw [World.size_alloc];exact Nat.le_refl _,Nat.zero_le _⟩)
 have hd:=hid (document_calls (w.heap.size+1) b s d _ _ hR1.out hs)
 have A0:=hid (At.new w #[.int .i64 0] 3)
 clear hR1
 go_enter_defers Tryz.func153,Tryz.ntmps153
 go_wp2_with fail
 refine Calls.mono hd.out ?_
 rintro e w2 (⟨rfl,i,v,dp,m,hR,hF,hT,hD,rfl,hB,ho⟩ | ⟨k,rfl,hk,hF⟩)
 ·have A2:=hid (show At w2 w.heap.size #[.int .i64 0] 3 from (hF.block w.heap.size (by omega) (by omega)).trans A0.out)
  have hG:Hid (Stp16 b s d w (.returned (.int .i64 (-1))) (w2.setCell ⟨w.heap.size,0,none⟩ (.int .i64 (-1)))):=by
   refine ⟨?_,.inl ⟨m,dp,v,rfl,hR.at_.other (p:=⟨w.heap.size,0,none⟩) (by simp;omega) _,hT,hB,ho,hD⟩⟩
   have b0:Below w.heap.size w (w.alloc (.cells #[.int .i64 0] 3)):=(Below.refl _ _).alloc (Nat.le_refl _) _
   have b1:Below w.heap.size w2 (w2.setCell ⟨w.heap.size,0,none⟩ (.int .i64 (-1))):=Below.setCell (p:=⟨w.heap.size,0,none⟩) (Below.refl _ _) (Nat.le_refl _) _
   refine ⟨b1.os.trans (hF.os.trans b0.os),b1.tape.trans (hF.tape.trans b0.tape),b1.output.trans (hF.output.trans b0.output),Nat.le_trans b0.size (Nat.le_trans hF.size b1.size),fun k hk hb=>(b1.block k hk).trans ((hF.block k (by omega) hb).trans (b0.block k hk))⟩
  have c0:w2.cell? ⟨w.heap.size,0,none⟩=some (.int .i64 0):=A2.out.cell 0
  have f0:=A2.out.frozen 0
  have A3:=hid (A2.out.set 0 (.int .i64 (-1)))
  clear hR hF hT hD hB ho hd A0 A2 hA
  go_wp2
  generalize w2.setCell ⟨w.heap.size,0,none⟩ (.int .i64 (-1))=w3 at hG A3 ⊢
  have c1:w3.cell? ⟨w.heap.size,0,none⟩=some (.int .i64 (-1)):=A3.out.cell 0
  refine leaves_cons (f:=165) (args:=#[.pointer (some ⟨w.heap.size,0,none⟩)]) (by simp) (by simp [go_sem]) ?_
  refine (idle16 _ _).mono ?_
  rintro e u' w'' ⟨rfl,rfl,rfl⟩
  simp [Leaves,settle,results,Tryz.results153,go_sem,c1]
  exact hG.out
 ·have A2:=hid (show At w2 w.heap.size #[.int .i64 0] 3 from (hF.block w.heap.size (by omega) (by omega)).trans A0.out)
  have hG:Hid (Stp16 b s d w (.returned (.int .i64 (k:Int))) ((w2.setCell ⟨w.heap.size,0,none⟩ (.int .i64 (k:Int))).alloc (.cells #[.int .i64 (k:Int)] 202))):=by
   refine ⟨?_,.inr ⟨k,rfl,hk⟩⟩
   have b0:Below w.heap.size w (w.alloc (.cells #[.int .i64 0] 3)):=(Below.refl _ _).alloc (Nat.le_refl _) _
   have hsz:w.heap.size≤w2.heap.size:=Nat.le_trans b0.size hF.size
   have b1:Below w.heap.size w2 ((w2.setCell ⟨w.heap.size,0,none⟩ (.int .i64 (k:Int))).alloc (.cells #[.int .i64 (k:Int)] 202)):=(Below.setCell (p:=⟨w.heap.size,0,none⟩) (Below.refl _ _) (Nat.le_refl _) _).alloc (by simpa using hsz) _
   refine ⟨b1.os.trans (hF.os.trans b0.os),b1.tape.trans (hF.tape.trans b0.tape),b1.output.trans (hF.output.trans b0.output),Nat.le_trans b0.size (Nat.le_trans hF.size b1.size),fun k hk hb=>(b1.block k hk).trans ((hF.block k (by omega) hb).trans (b0.block k hk))⟩
  have c0:w2.cell? ⟨w.heap.size,0,none⟩=some (.int .i64 0):=A2.out.cell 0
  have f0:=A2.out.frozen 0
  have hq:w.heap.size<w2.heap.size:=A2.out.lt
  have A3:=hid ((A2.out.set 0 (.int .i64 (k:Int))).alloc (.cells #[.int .i64 (k:Int)] 202))
  have hct:=hid (catch16 w.heap.size (.int .i64 0) k [] w2 hq c0 f0)
  clear hF hk hd A0 A2 hA
  rw [faultE]
  go_wp2
  refine leaves_cons (f:=165) (args:=#[.pointer (some ⟨w.heap.size,0,none⟩)]) (by simp) (by simp [go_sem]) ?_
  refine hct.out.mono ?_
  rintro e u' w'' ⟨rfl,rfl,rfl⟩
  clear c0 f0 hct
  generalize (w2.setCell ⟨w.heap.size,0,none⟩ (.int .i64 (k:Int))).alloc (.cells #[.int .i64 (k:Int)] 202)=w3 at hG A3 ⊢
  have c1:w3.cell? ⟨w.heap.size,0,none⟩=some (.int .i64 (k:Int)):=A3.out.cell 0
  simp [Leaves,settle,results,Tryz.results153,go_sem,c1]
  exact hG.out
def Ver16 (s:ByteArray) (d:Nat) (w:World) (e:Ending) (w':World):Prop:=∃ C A:Nat,e = .returned (.agg #[.int .i64 (C:Int),.int .i64 (A:Int)])∧IsVer s d C A∧Below w.heap.size w w'
theorem ret_ver1 {fn:Func} {p:Tmp} {R:Ending→World→Prop} {a:Act} {w:World} {b:Nat} {x y:Value} (hres:fn.results = #[.cell p 137]) (hp:a.tmps.getD p undef = .pointer (some ⟨b,0,none⟩))
  (h:At w b #[x,y] 137) (hd:a.defers=[]) (hR:R (.returned (.agg #[x,y])) w):bodyPost Tryz.prog fn R .ret a w :=
 bodyPost_ret (v:=.agg #[x,y]) (results_cell_row (P:=Tryz.prog) hres _ w b 137 #[x,y] (0,0) _ hp h Tryz.underlying137 rfl sizeVer) hd hR
set_option maxRecDepth 10000 in
set_option maxHeartbeats 4000000 in
theorem verdict_calls (s:ByteArray) (d:Nat) (hs:s.size≤8388608) (w:World) :
  Calls Tryz.prog 137 #[.string s,.int .i64 (d:Int)] w fun e w'=>Ver16 s d w e w':=by
 have hmf:∀ (fn:Fn) (first cap:Array Value) (w:World),(Instr.makeFunc fn first cap).run Tryz.prog w = .ok (.func fn first cap) w:=fun _ _ _ _=>rfl
 have B0:=hid (show Below w.heap.size w ((w.alloc (.cells #[.int .i64 0,.int .i64 0] 137)).alloc (.cells #[.string s,.int .i64 0,.slice none 0 0,.int .i64 (d:Int),.int .i64 (-1)] 191)) by exact bw)
 have A0:=hid ((At.new w #[.int .i64 0,.int .i64 0] 137).alloc (.cells #[.string s,.int .i64 0,.slice none 0 0,.int .i64 (d:Int),.int .i64 (-1)] 191))
 have R0:=hid (show At _ (w.heap.size+1) _ _ from by have:=At.new (w.alloc (.cells #[.int .i64 0,.int .i64 0] 137)) #[.string s,.int .i64 0,.slice none 0 0,.int .i64 (d:Int),.int .i64 (-1)] 191;rwa [World.size_alloc] at this)
 go_enter Tryz.func137,Tryz.ntmps137
 go_upto_region 2 with fail
 generalize (w.alloc (.cells #[.int .i64 0,.int .i64 0] 137)).alloc (.cells #[.string s,.int .i64 0,.slice none 0 0,.int .i64 (d:Int),.int .i64 (-1)] 191)=W at B0 A0 R0 ⊢
 have hst:=hid (stopped_calls (w.heap.size+1) s d W R0.out hs)
 have hWl:=hid R0.out.lt
 go_wp2_with fail
 refine Calls.mono hst.out ?_
 rintro e w2 ⟨hF,hC⟩
 have A2:=hid (show At w2 w.heap.size #[.int .i64 0,.int .i64 0] 137 from (hF.block w.heap.size (by have:=hWl.out;omega) (by omega)).trans A0.out)
 have B2:Hid (Below w.heap.size w w2):=by
  have hb:=B0.out
  have:=hWl.out
  exact ⟨hF.os.trans hb.os,hF.tape.trans hb.tape,hF.output.trans hb.output,Nat.le_trans hb.size hF.size,fun k hk=>(hF.block k (by omega) (by omega)).trans (hb.block k hk)⟩
 have c0:w2.cell? ⟨w.heap.size,0,none⟩=some (.int .i64 0):=A2.out.cell 0
 have c1:w2.cell? ⟨w.heap.size,1,none⟩=some (.int .i64 0):=A2.out.cell 1
 have f0:=A2.out.frozen 0
 have f1:=A2.out.frozen 1
 clear hst hF A0 B0 R0
 rcases hC with ⟨m,dp,v,rfl,hA2,hT,hB,ho,hD⟩ | ⟨k,rfl,hk⟩
 ·have r4:w2.cell? ⟨w.heap.size+1,4,none⟩=some (.int .i64 dp):=hA2.cell 4
  obtain ⟨-,hv⟩:=ver_end hT hB ho hD
  clear hA2 hT hB ho hD
  rcases hv with ⟨rfl,hv⟩ | ⟨p,rfl,hv⟩
  ·have hv':=hid hv
   have B3:=hid ((B2.out.setCell (p:=⟨w.heap.size,0,none⟩) (Nat.le_refl _) (.int .i64 1)).setCell (p:=⟨w.heap.size,1,none⟩) (Nat.le_refl _) (.int .i64 (s.size:Int)))
   have A3:=hid (A2.out.two_ver (x':=.int .i64 1) (y':=.int .i64 (s.size:Int)))
   clear hv B2 A2
   go_wp2
   exact ret_ver1 rfl rfl A3.out rfl ⟨1,s.size,rfl,hv'.out,B3.out⟩
  ·have hv':=hid hv
   have B3:=hid ((B2.out.setCell (p:=⟨w.heap.size,0,none⟩) (Nat.le_refl _) (.int .i64 3)).setCell (p:=⟨w.heap.size,1,none⟩) (Nat.le_refl _) (.int .i64 (p:Int)))
   have A3:=hid (A2.out.two_ver (x':=.int .i64 3) (y':=.int .i64 (p:Int)))
   have e1:(0:Int)≤(p:Int):=by omega
   clear hv B2 A2
   go_wp2
   exact ret_ver1 rfl rfl A3.out rfl ⟨3,p,rfl,hv'.out,B3.out⟩
 ·have hv':=hid (show IsVer s d 2 k from .inl ⟨rfl,hk⟩)
  have B3:=hid ((B2.out.setCell (p:=⟨w.heap.size,0,none⟩) (Nat.le_refl _) (.int .i64 2)).setCell (p:=⟨w.heap.size,1,none⟩) (Nat.le_refl _) (.int .i64 (k:Int)))
  have A3:=hid (A2.out.two_ver (x':=.int .i64 2) (y':=.int .i64 (k:Int)))
  have e1:(0:Int)≤(k:Int):=by omega
  clear hk B2 A2
  go_wp2
  exact ret_ver1 rfl rfl A3.out rfl ⟨2,k,rfl,hv'.out,B3.out⟩
end Go.Proofs.YtongedjlmohogaaGreatDoor

/- Package valid: the depth by the places where something begins;where a value ends (mathematics alone). -/
namespace Go.Proofs.YtongedjlmohogaaGreatDoor
open Go.RowKit Go.Shelf
theorem idxTo_pre (s:ByteArray) {x:Nat}:∀ n,x≤n→∃ r,idxTo s n=idxTo s x++r:=by
  intro n
  induction n with
  | zero => intro h; obtain rfl : x = 0 := by omega
            exact ⟨[],by simp⟩
  | succ n ih =>
    intro h
    by_cases e:x=n+1
    · subst e;exact ⟨[],by simp⟩
    · obtain ⟨r,hr⟩:=ih (by omega)
      cases hb:begS s n with
      | true=>exact ⟨r++[n],by rw [idxTo_t hb,hr];simp⟩
      | false=>exact ⟨r,by rw [idxTo_f hb,hr]⟩
theorem idx_next (s : ByteArray) : ∀ (n x t : Nat), s.size - x ≤ n → x ≤ s.size → (idxTo s x).length = t →
    (t=(idxS s).length∧∀ q,x≤q→q<s.size→begS s q=false) ∨
    (t<(idxS s).length∧∃ p,x≤p∧p<s.size∧begS s p=true∧(∀ q,x≤q→q<p→begS s q=false)∧(idxS s)[t]? = some p∧(idxTo s (p+1)).length=t+1):=by
  intro n
  induction n with
  | zero =>
    intro x t h1 h2 h3
    obtain rfl:x=s.size:=by omega
    exact .inl ⟨h3.symm,fun q a b=>by omega⟩
  | succ n ih =>
    intro x t h1 h2 h3
    by_cases hx:x=s.size
    · subst hx
      exact .inl ⟨h3.symm,fun q a b=>by omega⟩
    · cases hb:begS s x with
      | true =>
        right
        have e1:=idxTo_t hb
        obtain ⟨r,hr⟩:=idxTo_pre s (x:=x+1) s.size (by omega)
        have hr':idxS s=idxTo s x++[x]++r:=by unfold idxS;rw [hr,e1]
        refine ⟨by rw [hr'];simp;omega,x,Nat.le_refl _,by omega,hb,fun q a b=>by omega,?_,by rw [e1];simp;exact h3⟩
        rw [hr',← h3]
        simp
      | false =>
        have e1:=idxTo_f hb
        rcases ih (x+1) t (by omega) (by omega) (by rw [e1];exact h3) with ⟨a,b⟩ | ⟨a,p,b1,b2,b3,b4,b5,b6⟩
        · refine .inl ⟨a,fun q q1 q2=>?_⟩
          by_cases e:q=x
          · subst e;exact hb
          · exact b q (by omega) q2
        · refine .inr ⟨a,p,by omega,b2,b3,fun q q1 q2=>?_,b5,b6⟩
          by_cases e:q=x
          · subst e;exact hb
          · exact b4 q (by omega) q2
theorem beg_br {s:ByteArray} {q:Nat} (h:begS s q=false):brO s q=false∧brC s q=false:=by
  have h1:strS s q=false:=by
    unfold begS at h
    rw [Bool.or_eq_false_iff] at h
    exact h.1
  unfold strS at h1
  unfold brO brC
  cases ho:outS s q with
  | false=>simp
  | true =>
    rw [ho] at h1
    simp only [Bool.true_and] at h1 ⊢
    have:¬ (byteAt s q=123∨byteAt s q=125∨byteAt s q=91∨byteAt s q=93∨byteAt s q=58∨byteAt s q=44):=fun x=>by
      have:=(sgn_iff s q).2 x
      rw [this] at h1
      cases h1
    unfold opB clB
    simp
    omega
theorem dep_flat {s:ByteArray} {x:Nat}:∀ p,x≤p→(∀ q,x≤q→q<p→begS s q=false)→depS s p=depS s x∧maxD (depS s) p=maxD (depS s) x:=by
  intro p
  induction p with
  | zero => intro h _; obtain rfl : x = 0 := by omega
            exact ⟨rfl,rfl⟩
  | succ p ih =>
    intro h hq
    by_cases e:x=p+1
    · subst e;exact ⟨rfl,rfl⟩
    · obtain ⟨a,b⟩:=ih (by omega) (fun q q1 q2=>hq q q1 (by omega))
      obtain ⟨c1,c2⟩:=beg_br (hq p (by omega) (by omega))
      have d1:depS s (p+1)=depS s p:=by rw [depS_succ,c1,c2];rfl
      refine ⟨d1.trans a,?_⟩
      rw [maxD,d1]
      have:=maxD_ge (depS s) (Nat.le_refl p)
      omega
theorem dep_beg {s : ByteArray} {p : Nat} (h : begS s p = true) :
    ((byteAt s p=123∨byteAt s p=91)→depS s (p+1)=depS s p+1∧maxD (depS s) (p+1)=max (maxD (depS s) p) (depS s p+1)) ∧
    ((byteAt s p=125∨byteAt s p=93)→depS s (p+1)=depS s p-1∧maxD (depS s) (p+1)=maxD (depS s) p) ∧
    (¬ (byteAt s p=123∨byteAt s p=91)→¬ (byteAt s p=125∨byteAt s p=93)→depS s (p+1)=depS s p∧maxD (depS s) (p+1)=maxD (depS s) p):=by
  have hge:=maxD_ge (depS s) (Nat.le_refl p)
  have hout:(byteAt s p=123∨byteAt s p=91∨byteAt s p=125∨byteAt s p=93)→outS s p=true:=fun hc=>by
    have hs:sgnB s p=true:=(sgn_iff s p).2 (by omega)
    have hm:markS s p=false:=mark_not (by omega)
    unfold begS strS wordS at h
    rw [hm,hs] at h
    simpa using h
  refine ⟨fun hc=>?_,fun hc=>?_,fun h1 h2=>?_⟩
  · have d1 : depS s (p + 1) = depS s p + 1 := by
      rw [depS_succ]
      unfold brO
      have:opB (byteAt s p)=true:=by unfold opB;simp;omega
      rw [hout (by omega),this]
      rfl
    exact ⟨d1,by rw [maxD,d1]⟩
  · have d1 : depS s (p + 1) = depS s p - 1 := by
      rw [depS_succ]
      unfold brO brC
      have a1:opB (byteAt s p)=false:=by unfold opB;simp;omega
      have a2:clB (byteAt s p)=true:=by unfold clB;simp;omega
      rw [hout (by omega),a1,a2]
      rfl
    refine ⟨d1,?_⟩
    rw [maxD,d1]
    omega
  · have d1 : depS s (p + 1) = depS s p := by
      rw [depS_succ]
      unfold brO brC
      have a1:opB (byteAt s p)=false:=by unfold opB;simp;omega
      have a2:clB (byteAt s p)=false:=by unfold clB;simp;omega
      rw [a1,a2]
      simp [stepD]
    refine ⟨d1,?_⟩
    rw [maxD,d1]
    omega
structure DpS (s:ByteArray) (t D M:Nat):Prop where
  ex:∃ x,x≤s.size∧(idxTo s x).length=t∧depS s x=D∧maxD (depS s) x=M
theorem DpS.next {s : ByteArray} {t D M : Nat} (h : DpS s t D M) (ht : t < (idxS s).length) : ∃ p, p < s.size ∧ (idxS s)[t]? = some p ∧
    ((byteAt s p=123∨byteAt s p=91)→DpS s (t+1) (D+1) (max M (D+1)))∧((byteAt s p=125∨byteAt s p=93)→DpS s (t+1) (D-1) M) ∧
    (¬ (byteAt s p=123∨byteAt s p=91)→¬ (byteAt s p=125∨byteAt s p=93)→DpS s (t+1) D M):=by
  obtain ⟨x,h1,h2,h3,h4⟩:=h.ex
  rcases idx_next s s.size x t (by omega) h1 h2 with ⟨a,-⟩ | ⟨-,p,b1,b2,b3,b4,b5,b6⟩
  · omega
  · obtain ⟨c1,c2⟩:=dep_flat p b1 b4
    obtain ⟨d1,d2,d3⟩:=dep_beg b3
    rw [c1,c2,h3,h4] at d1 d2 d3
    exact ⟨p,b2,b5,fun hc=>⟨p+1,by omega,b6,(d1 hc).1,(d1 hc).2⟩,fun hc=>⟨p+1,by omega,b6,(d2 hc).1,(d2 hc).2⟩,fun e1 e2=>⟨p+1,by omega,b6,(d3 e1 e2).1,(d3 e1 e2).2⟩⟩
theorem DpS.done {s:ByteArray} {D M:Nat} (h:DpS s (idxS s).length D M):M=maxD (depS s) s.size:=by
  obtain ⟨x,h1,h2,h3,h4⟩:=h.ex
  rcases idx_next s s.size x _ (by omega) h1 h2 with ⟨-,b⟩ | ⟨a,-⟩
  · rw [← h4]
    exact (dep_flat s.size h1 b).2.symm
  · omega
theorem DpS.le {s:ByteArray} {t D M:Nat} (h:DpS s t D M):D≤s.size∧M≤s.size:=by
  obtain ⟨x,h1,h2,h3,h4⟩:=h.ex
  refine ⟨by rw [← h3];have:=dep_le s x;omega,?_⟩
  rw [← h4]
  exact maxD_le _ (fun i hi=>by have:=dep_le s i;omega)
end Go.Proofs.YtongedjlmohogaaGreatDoor
/- What the functions of package valid answer. -/
namespace Go.Proofs.YtongedjlmohogaaGreatDoor
open Go.RowKit Go.Shelf
def Ok16 (w:World):Prop:=Tab w∧TabM w∧1<w.heap.size
theorem Ok16.below {w w':World} (h:Ok16 w) (hb:Below w.heap.size w w'):Ok16 w' :=
  ⟨h.1.below hb (by have:=h.2.2;omega),h.2.1.below hb h.2.2,by have:=hb.size;have:=h.2.2;omega⟩
set_option maxRecDepth 10000 in
set_option maxHeartbeats 1000000 in
theorem ckA_calls (s : ByteArray) (hs : s.size ≤ 8388608) (d : Int) (hd : (Lit.int .i64 d).wf = true) (w : World) :
    Calls Tryz.prog 124 #[.string s,.int .i64 d] w fun e w'=>ChkP s d w e w':=by
  have B0:=hid (show Below w.heap.size w (w.alloc (.cells #[.int .i64 0,.int .i64 0] 137)) by exact bw)
  have A0:=hid (At.new w #[.int .i64 0,.int .i64 0] 137)
  by_cases hr:d<1∨1024<d
  · have hI:=hid (show IsChk s d 0 0 2 from .inl ⟨hr,rfl,rfl,rfl⟩)
    go_enter Tryz.func124,Tryz.ntmps124
    go_upto_region 1 with fail
    generalize w.alloc (.cells #[.int .i64 0,.int .i64 0] 137)=W at A0 B0 ⊢
    have c0:W.cell? ⟨w.heap.size,0,none⟩=some (.int .i64 0):=A0.out.cell 0
    have c1:W.cell? ⟨w.heap.size,1,none⟩=some (.int .i64 0):=A0.out.cell 1
    have f0:=A0.out.frozen 0
    have f1:=A0.out.frozen 1
    have B3:=hid ((B0.out.setCell (p:=⟨w.heap.size,0,none⟩) (Nat.le_refl _) (.int .i64 0)).setCell (p:=⟨w.heap.size,1,none⟩) (Nat.le_refl _) (.int .i64 0))
    have A3:=hid (A0.out.two_ver (x':=.int .i64 0) (y':=.int .i64 0))
    clear A0 B0
    rcases hr with hr | hr
    · have e1:decide (d<1)=true:=by simp;omega
      go_wp2
      exact ret_ver rfl rfl A3.out rfl ⟨0,0,2,rfl,hI.out,B3.out⟩
    · have e0:decide (d<1)=false:=by simp;omega
      have e1:decide (1024<d)=true:=by simp;omega
      go_wp2
      exact ret_ver rfl rfl A3.out rfl ⟨0,0,2,rfl,hI.out,B3.out⟩
  · obtain ⟨k,rfl⟩:∃ k:Nat,d=(k:Int):=⟨d.toNat,by omega⟩
    have h1:1≤k:=by omega
    have h2:k≤1024:=by omega
    have e0:decide ((k:Int)<1)=false:=by simp;omega
    have e1:decide (1024<(k:Int))=false:=by simp;omega
    have hv:=hid (fun u=>verdict_calls s k hs u)
    clear hr hd
    go_enter Tryz.func124,Tryz.ntmps124
    go_upto_region 1 with fail
    generalize w.alloc (.cells #[.int .i64 0,.int .i64 0] 137)=W at A0 B0 ⊢
    go_wp2_with fail
    refine Calls.mono (hv.out _) ?_
    rintro e w2 ⟨C,A,rfl,hI,hb⟩
    have hI':=hid (ver_chk h1 h2 hI)
    have B2:=hid (B0.out.trans (hb.mono B0.out.size))
    have A2:=hid (A0.out.keptAll hb)
    clear hb hv A0 B0 hI
    have c0:w2.cell? ⟨w.heap.size,0,none⟩=some (.int .i64 0):=A2.out.cell 0
    have c1:w2.cell? ⟨w.heap.size,1,none⟩=some (.int .i64 0):=A2.out.cell 1
    have f0:=A2.out.frozen 0
    have f1:=A2.out.frozen 1
    have B3:=hid ((B2.out.setCell (p:=⟨w.heap.size,0,none⟩) (Nat.le_refl _) (.int .i64 (C:Int))).setCell (p:=⟨w.heap.size,1,none⟩) (Nat.le_refl _) (.int .i64 (A:Int)))
    have A3:=hid (A2.out.two_ver (x':=.int .i64 (C:Int)) (y':=.int .i64 (A:Int)))
    clear A2 B2
    go_wp2
    exact ret_ver rfl rfl A3.out rfl ⟨C,A,0,rfl,hI'.out,B3.out⟩
end Go.Proofs.YtongedjlmohogaaGreatDoor
