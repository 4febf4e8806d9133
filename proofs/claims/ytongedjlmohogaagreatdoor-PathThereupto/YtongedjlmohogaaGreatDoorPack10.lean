/-
  Texts of mine that others lean on, one behind the other.
-/
import Derived.Test.YtongedjlmohogaaGreatDoorPack9
import Derived.Laws.AppendOwn
import Derived.Shelf.Utf8.AppendRunePlain
import Derived.Shelf.LaysM
import Derived.Test.YtongedjlmohogaaGreatDoorProg
import Derived.KernelRfl
import Derived.Test.YtongedjlmohogaaGreatDoorPack5
import Derived.Test.YtongedjlmohogaaGreatDoorPack7
import Derived.BigQuiet
import Derived.Test.YtongedjlmohogaaGreatDoorPack1
namespace Go.Proofs.YtongedjlmohogaaGreatDoor
open Go.RowKit Go.Shelf
theorem wpList_append_byte {ops:Array Oper} {rest:List Oper} {o:Oper} {a:Act} {w:World} {Q:Exit→Act→World→Prop} (hgd:o.guard=none) (sl x:Operand)
  (ho:o.op = .call { callee:=.builtin .append,args:=#[sl,x],argTypes:=#[63,63] }) (base:Nat) (v:Value) (n:Nat) (xs:List Value) (hs:a.eval sl=v) (hown:w.ownsRow base 5 1 v n xs) (b:Nat) (C:Int) (hx:a.eval x = .slice (some ⟨b,0,none⟩) 1 1) (hc:w.cell? ⟨b,0,none⟩=some (.int .u8 C))
  (hn:n+1≤140737488355328) (hbase:base≤w.heap.size)
  (h:∀ v' w',w'.ownsRow base 5 1 v' (n+1) (xs++[.int .u8 C])→w.grownBy w' v.ownBlock→wpList Tryz.prog ops Q rest (a.put o.dst v') w'):wpList Tryz.prog ops Q (o :: rest) a w:=by
 obtain ⟨i0,hi,hz0,hz1,hz2⟩:=info_parts infoBy
 exact wpList_append_own w hgd sl x 63 ho base 5 i0 (.int .u8 0) 1 1 Tryz.underlying63 hi hz0 hz1 hz2 rfl (by decide) v n xs hs hown ⟨b,0,none⟩ 1 1 [.int .u8 C] hx rfl (fun j u hj=>by
  match j,hj with
  | 0,hj=>simp at hj;subst hj;simpa [Addr.add] using hc) (fun u hu=>by simp at hu;subst hu;rfl) (by unfold maxLen;omega) (by omega) hbase (fun v' w' h1 h2 _=>h v' w' h1 h2)
set_option maxRecDepth 100000 in
set_option maxHeartbeats 2000000 in
theorem bbyte_used (m B:Nat) (v:Value) (l:List UInt8) (k:UInt8) (C:Int) (hC:C=(k.toNat:Int)) (hm:m<B) (hn:l.length+1≤140737488355328) (w:World) (w0:World) (h:At w m #[.pointer (some ⟨m,0,none⟩),v] 65) (hrow:w.ownsRow B 5 1 v l.length (Lib.byteCells l)) (hB:B≤w.heap.size)
  (hck:Calls Tryz.prog 48 #[.pointer (some ⟨m,0,none⟩)] w0 fun e w'=>e = .returned (.tuple #[])∧w'=w) (hh:Below m w0 w) :
  Calls Tryz.prog 27 #[.pointer (some ⟨m,0,none⟩),.int .u8 C] w0 fun e w'=>e = .returned .nilIface∧BdI w' m B (l++[k])∧Below m w0 w':=by
 have hck':=hid hck
 have hh':=hid hh
 have hC':=hid hC
 clear hC
 have h2:=hid (h.alloc (.cells #[.int .u8 C] 5))
 have hrow2:=hid (World.ownsRow.alloc hrow (.cells #[.int .u8 C] 5))
 have c0:w.cell? ⟨m,0,none⟩=some (.pointer (some ⟨m,0,none⟩)):=h.cell 0
 have c1:w.cell? ⟨m,1,none⟩=some v:=h.cell 1
 have hw2:=hid (show Below m w (w.alloc (.cells #[.int .u8 C] 5)) from (Below.refl _ _).alloc (Nat.le_trans (Nat.le_of_lt hm) hB) _)
 have hcell:=hid (show (w.alloc (.cells #[.int .u8 C] 5)).cell? ⟨w.heap.size,0,none⟩=some (.int .u8 C) from (At.new w #[.int .u8 C] 5).cell 0)
 clear hck h hrow hh
 go_enter Tryz.func27,Tryz.ntmps27
 go_wp2_with fail
 refine Calls.mono hck'.out ?_
 rintro e w1 ⟨rfl,hw1⟩
 obtain rfl:=hw1.symm
 go_wp2_with (at_builtin;refine wpList_append_byte rfl _ _ rfl B v _ _ rfl hrow2.out _ C rfl hcell.out hn (by rw [World.size_alloc];omega) ?_;intro v' w3 hown3 hg;obtain ⟨so,cc,rfl⟩:=rowY_slice hown3;have a1:At w3 m #[.pointer (some ⟨m,0,none⟩),v] 65:=(hg.block m h2.out.lt (fun e=>by have:=(hrow2.out.lt m e.symm).1;omega)).trans h2.out;have f1:w3.frozen? ⟨m,1,none⟩=false:=a1.frozen 1;have d1:w3.cell? ⟨m,1,none⟩=some v:=a1.cell 1;have a1':=hid a1;have hown3':=hid hown3;have hg':=hid hg;clear a1 hown3 hg)
 go_ret
 have a2:At (w3.setCell ⟨m,1,none⟩ (.slice so (l.length+1) cc)) m #[.pointer (some ⟨m,0,none⟩),.slice so (l.length+1) cc] 65:=by have:=a1'.out.set 1 (.slice so (l.length+1) cc);simpa using this
 refine ⟨rfl,⟨_,_,a2,.inr rfl,?_⟩,?_⟩
 ·have h3:=ownsRow_setCell_below hown3'.out (a:=⟨m,1,none⟩) hm (.slice so (l.length+1) cc)
  rw [show (l++[k]).length=l.length+1 by simp,show Lib.byteCells (l++[k])=Lib.byteCells l++[.int .u8 C] by rw [hC'.out,Lib.byteCells_append];rfl]
  exact h3
 ·have h4:Below m (w.alloc (.cells #[.int .u8 C] 5)) (w3.setCell ⟨m,1,none⟩ (.slice so (l.length+1) cc)):=((Below.refl m _).grown hg'.out (by have:=h2.out.lt;omega) (fun b e=>by have:=(hrow2.out.lt b e).1;omega)).setCell (p:=⟨m,1,none⟩) (Nat.le_refl _) _
  exact hh'.out.trans (hw2.out.trans h4)
theorem bbyte_calls (m B:Nat) (l:List UInt8) (k:UInt8) (C:Int) (hC:C=(k.toNat:Int)) (hm:m<B) (hn:l.length+1≤140737488355328) (w:World) (h:BdI w m B l) (hB:B≤w.heap.size) :
  Calls Tryz.prog 27 #[.pointer (some ⟨m,0,none⟩),.int .u8 C] w fun e w'=>e = .returned .nilIface∧BdI w' m B (l++[k])∧Below m w w':=by
 obtain ⟨p,v,h1,rfl | rfl,h2⟩:=h
 ·have a1:At (w.setCell ⟨m,0,none⟩ (.pointer (some ⟨m,0,none⟩))) m #[.pointer (some ⟨m,0,none⟩),v] 65:=by have:=h1.set 0 (.pointer (some ⟨m,0,none⟩));simpa using this
  exact bbyte_used m B v l k C hC hm hn _ w a1 (ownsRow_setCell_below h2 (a:=⟨m,0,none⟩) hm _) (Nat.le_trans hB (KeepsOthers.setCell w ⟨m,0,none⟩ (.pointer (some ⟨m,0,none⟩))).1) (bcheck_fresh m v w h1) ((Below.refl m w).setCell (p:=⟨m,0,none⟩) (Nat.le_refl _) _)
 ·exact bbyte_used m B v l k C hC hm hn w w h1 h2 hB (bcheck_used m v w h1) (Below.refl _ _)
theorem bstr_calls (m B:Nat) (l:List UInt8) (s:ByteArray) (hm:m<B) (hn:l.length+s.size≤140737488355328) (w:World) (h:BdI w m B l) (hB:B≤w.heap.size) :
  Calls Tryz.prog 28 #[.pointer (some ⟨m,0,none⟩),.string s] w fun e w'=>e = .returned (.tuple #[.int .i64 (s.size:Int),.nilIface])∧BdI w' m B (l++s.data.toList)∧Below m w w':=by
 refine (bwrite_calls m B l s hm hn w h hB).mono ?_
 rintro e w' ⟨rfl,h1,h2⟩
 exact ⟨rfl,h1,(h2 m (m+1) (m+1) (Nat.le_refl _) (Nat.lt_succ_self _) (Nat.succ_ne_self _)).1⟩
end Go.Proofs.YtongedjlmohogaaGreatDoor

namespace Go.Proofs
open Go.Shelf
def Tryz.lays242_ren:Go.Shelf.Ren:=⟨fun | 242=>203 | 278=>210 | n=>n,fun | 37=>63 | 21=>21 | 51=>154 | 4=>4 | 5=>5 | 46=>116 | n=>n,fun | n=>n⟩
theorem Tryz.lays242:Go.Proofs.Lays.n242 Tryz.prog Tryz.lays242_ren:={
  mixed:=by kernel_rfl
  f242:=Tryz.func203.trans (congrArg some (by kernel_rfl))
  f278:=Tryz.func210.trans (congrArg some (by kernel_rfl))
  t4:=Tryz.underlying4
  a4:=Tryz.isAgg4
  z4:=Tryz.sizeOf4
  v4:=Tryz.zeroValue4
  t5:=Tryz.underlying5
  a5:=Tryz.isAgg5
  z5:=Tryz.sizeOf5
  v5:=Tryz.zeroValue5
  t21:=Tryz.underlying21
  a21:=Tryz.isAgg21
  z21:=Tryz.sizeOf21
  v21:=Tryz.zeroValue21
  t37:=Tryz.underlying63
  a37:=Tryz.isAgg63
  z37:=Tryz.sizeOf63
  v37:=Tryz.zeroValue63
  t46:=Tryz.underlying116
  a46:=Tryz.isAgg116
  z46:=Tryz.sizeOf116
  v46:=Tryz.zeroValue116
  t51:=Tryz.underlying154
  a51:=Tryz.isAgg154
  z51:=Tryz.sizeOf154
  v51:=Tryz.zeroValue154 }
end Go.Proofs

namespace Go.Proofs.YtongedjlmohogaaGreatDoor
open Go.RowKit Go.Shelf
theorem nextP_zero (b:Nat→Nat) (n:Nat) (h:(nextP b n).size=0):nextP b n=pc0:=by
  revert h
  unfold nextP
  repeat' split
  all_goals first
    | (intro _;rfl)
    | (intro h;cases h;done)
    | (unfold fourP
       split
       · intro h;cases h
       · intro _;rfl)
theorem nextP_short (b:Nat→Nat) (n:Nat) (h0:b 0=92) (h:(nextP b n).four=false):(nextP b n).means<128:=by
  revert h
  unfold nextP
  repeat' split
  all_goals first
    | (intro _;simp only [pc0];omega)
    | (unfold fourP
       split
       · intro h;cases h
       · intro _;decide)
theorem next_sg {b:Nat→Nat} {n:Nat} (h:(nextP b n).four=true):sgP b n=nextP b n:=by
  unfold sgP
  by_cases hc:2≤n∧b 0=92
  · rw [if_pos hc]
  · exfalso
    revert h
    unfold nextP
    repeat' split
    all_goals first
      | (intro h;cases h;done)
      | (intro _;omega)
theorem sg_big {b:Nat→Nat} {n:Nat} (h:256≤(sgP b n).means):sgP b n=nextP b n∧(nextP b n).four=true:=by
  unfold sgP at h ⊢
  by_cases hc:2≤n∧b 0=92
  · rw [if_pos hc] at h ⊢
    refine ⟨rfl,?_⟩
    cases hf:(nextP b n).four with
    | true=>rfl
    | false =>
      have:=nextP_short b n hc.2 hf
      omega
  · rw [if_neg hc] at h
    simp [pc0] at h
theorem charL_one {n:Nat} (h:n<128):charL n=[n]:=by
  unfold charL
  rw [if_pos h]
theorem step_mean {l:List Nat} (hp:plTB (lb l 0)=false):stepL l=if (meanL l).2=0 then none else some ((meanL l).2,charL (meanL l).1):=by
  have none_of:nextL l=pc0→sgL l=pc0→stepL l=if (meanL l).2=0 then none else some ((meanL l).2,charL (meanL l).1):=fun e e2=>by
    have hS:stepL l=none:=by
      unfold stepL
      rw [if_pos (by rw [e];rfl)]
    have hM:meanL l=(0,0):=by
      unfold meanL
      rw [if_pos (.inl (by rw [e2];decide)),e2]
      rfl
    rw [hS,hM]
    rfl
  by_cases h92:lb l 0=92
  · by_cases h2:2≤l.length
    · have e:sgL l=nextL l:=by unfold sgL sgP nextL;rw [if_pos ⟨h2,h92⟩]
      by_cases h0:(nextL l).size=0
      · have e0:nextL l=pc0:=nextP_zero _ _ h0
        exact none_of e0 (e.trans e0)
      · have hone:(nextL l).four=false→(nextL l).means<128:=nextP_short _ _ h92
        by_cases hh:highP (nextL l)=true
        · have hh2:=hh
          unfold highP at hh2
          simp only [Bool.and_eq_true,decide_eq_true_eq] at hh2
          by_cases hl:(nextL l).size<l.length∧lowP (nextL (l.drop (nextL l).size))=true
          · have hl2:=hl.2
            unfold lowP at hl2
            simp only [Bool.and_eq_true,decide_eq_true_eq] at hl2
            have e2:sgL (l.drop (nextL l).size)=nextL (l.drop (nextL l).size):=next_sg hl2.1
            have hS:stepL l=some ((nextL l).size+(nextL (l.drop (nextL l).size)).size,charL (65536+((nextL l).means-55296)*1024+((nextL (l.drop (nextL l).size)).means-56320))):=by
              unfold stepL
              rw [if_neg h0,if_pos ⟨hh,hl⟩]
            have hM:meanL l=(65536+((nextL l).means-55296)*1024+((nextL (l.drop (nextL l).size)).means-56320),(nextL l).size+(nextL (l.drop (nextL l).size)).size):=by
              unfold meanL
              rw [e,e2,if_neg (by omega),if_pos (by omega)]
            rw [hS,hM]
            dsimp only
            rw [if_neg (by omega)]
          · have hS : stepL l = some ((nextL l).size, charL 65533) := by
              unfold stepL
              rw [if_neg h0,if_neg (fun h=>hl h.2),if_pos (.inl hh)]
            have hM:meanL l=(65533,(nextL l).size):=by
              unfold meanL
              rw [e,if_neg (by omega),if_neg ?_]
              rintro ⟨-,q1,q2⟩
              have q3:=sg_big (b:=lb (l.drop (nextL l).size)) (n:=(l.drop (nextL l).size).length) (show 256≤(sgL (l.drop (nextL l).size)).means by omega)
              have q4:sgL (l.drop (nextL l).size)=nextL (l.drop (nextL l).size):=q3.1
              rw [q4] at q1 q2
              apply hl
              refine ⟨?_,?_⟩
              · by_cases hlt:(nextL l).size<l.length
                · exact hlt
                · exfalso
                  rw [List.drop_eq_nil_of_le (by omega)] at q1
                  have:(nextL []).means=0:=by decide
                  omega
              · unfold lowP
                rw [show (nextL (l.drop (nextL l).size)).four=true from q3.2]
                simp [q1,q2]
            rw [hS,hM]
            dsimp only
            rw [if_neg h0]
        · by_cases hlo:lowP (nextL l)=true
          · have hlo2:=hlo
            unfold lowP at hlo2
            simp only [Bool.and_eq_true,decide_eq_true_eq] at hlo2
            have hS:stepL l=some ((nextL l).size,charL 65533):=by
              unfold stepL
              rw [if_neg h0,if_neg (fun h=>hh h.1),if_pos (.inr hlo)]
            have hM:meanL l=(65533,(nextL l).size):=by
              unfold meanL
              rw [e,if_neg (by omega),if_neg (by omega)]
            rw [hS,hM]
            dsimp only
            rw [if_neg h0]
          · have hM : ¬ (55296 ≤ (nextL l).means ∧ (nextL l).means ≤ 57343) → meanL l = ((nextL l).means, (nextL l).size) := fun hx => by
              unfold meanL
              rw [e,if_pos (by omega)]
            cases hf:(nextL l).four with
            | true =>
              have hS:stepL l=some ((nextL l).size,charL (nextL l).means):=by
                unfold stepL
                rw [if_neg h0,if_neg (fun h=>hh h.1),if_neg (fun h=>h.elim hh hlo),if_pos hf]
              unfold highP at hh
              unfold lowP at hlo
              rw [hf] at hh hlo
              simp only [Bool.true_and,Bool.and_eq_true,decide_eq_true_eq] at hh hlo
              rw [hS,hM (by omega)]
              dsimp only
              rw [if_neg h0]
            | false =>
              have h128:=hone hf
              have hS:stepL l=some ((nextL l).size,[(nextL l).means]):=by
                unfold stepL
                rw [if_neg h0,if_neg (fun h=>hh h.1),if_neg (fun h=>h.elim hh hlo),if_neg (by rw [hf];simp)]
              rw [hS,hM (by omega)]
              dsimp only
              rw [if_neg h0,charL_one h128]
    · have e : nextL l = pc0 := by
        unfold nextL nextP
        rw [h92,if_neg (by decide),if_neg (by simp),if_pos (by omega)]
      have e2:sgL l=pc0:=by unfold sgL sgP;rw [if_neg (by omega)]
      exact none_of e e2
  · have e : nextL l = pc0 := by
      unfold plTB at hp
      simp only [decide_eq_false_iff_not] at hp
      unfold nextL nextP
      rw [if_pos (by omega)]
    have e2:sgL l=pc0:=by unfold sgL sgP;rw [if_neg (fun h=>h92 h.2)]
    exact none_of e e2
theorem mean_lt {l:List Nat} (h:∀ x ∈ l,x<256):(meanL l).1<1114112∧¬ (55296≤(meanL l).1∧(meanL l).1≤57343)∧(meanL l).2≤l.length:=by
  have h1:=sgL_size h
  have h2:=sgL_size (l:=l.drop (sgL l).size) (fun x hx=>h x (List.mem_of_mem_drop hx))
  rw [List.length_drop] at h2
  unfold meanL
  split
  · dsimp only;omega
  · split <;> dsimp only <;> omega
theorem plain_step {l:List Nat} (hp:plTB (lb l 0)=true):stepL l=some (1,[lb l 0]):=by
  unfold plTB at hp
  simp only [decide_eq_true_eq] at hp
  have e:nextL l=⟨1,lb l 0,false⟩:=by
    unfold nextL nextP
    rw [if_neg (by omega),if_pos (by omega)]
  unfold stepL
  rw [e,if_neg (by simp),if_neg (by simp [highP]),if_neg (by simp [highP,lowP]),if_neg (by simp)]
theorem UnR.plain {s:ByteArray}:∀ (k:Nat) {r r':ByteArray} {o:List Nat},UnR s r o→k≤r.size→(∀ i,i<k→plTB (bAt r i)=true)→byts r'=(byts r).drop k→UnR s r' (o++(byts r).take k)
  | 0,r,r',o,h,_,_,hr'=>by
    rw [List.drop_zero] at hr'
    obtain rfl:r'=r:=byts_inj hr'
    simpa using h
  | k+1,r,r',o,h,hk,hp,hr'=>by
    have hb:byts (r.extract 1 r.size)=(byts r).drop 1:=(byts_from r 1).1
    have hz:(r.extract 1 r.size).size=r.size-1:=(byts_from r 1).2
    have hne:byts r≠[]:=fun e=>by
      have:=byts_length r
      rw [e] at this
      simp at this
      omega
    have hs:=plain_step (l:=byts r) (by rw [← bAt_lb];exact hp 0 (by omega))
    have h1:=(UnR.step h (by omega) hs hb).1
    have h2:=UnR.plain k (r':=r') h1 (by omega) (fun i hi=>by rw [bAt_lb,hb,lb_drop,← bAt_lb];exact hp (1+i) (by omega)) (by rw [hb,List.drop_drop,hr',Nat.add_comm])
    have e:o++[lb (byts r) 0]++(byts (r.extract 1 r.size)).take k=o++(byts r).take (k+1):=by
      rw [hb]
      cases hl:byts r with
      | nil=>exact absurd hl hne
      | cons x t=>simp [lb]
    rw [e] at h2
    exact h2
theorem rune_cells {n:Nat} (h:n<1114112) (hn:¬ (55296≤n∧n≤57343)):Lib.runeCells (n:Int)=Lib.byteCells ((charL n).map UInt8.ofNat):=by
  have hb:∀ L:List Nat,(∀ x ∈ L,x<256)→Lib.byteCells (L.map UInt8.ofNat)=L.map (fun (x:Nat)=>Value.int .u8 (x:Int)):=by
    intro L hL
    induction L with
    | nil=>rfl
    | cons x t ih =>
      have hx:x<256:=hL x (by simp)
      have:=ih (fun y hy=>hL y (by simp [hy]))
      unfold Lib.byteCells at this ⊢
      rw [List.map_cons,List.map_cons,List.map_cons,this]
      congr 2
      simp
      omega
  rw [hb _ (charL_lt h)]
  unfold charL
  split
  · simp [Lib.runeCells,Lib.encodeRuneZ_one (r:=(n:Int)) (by omega) (by omega)]
  · split
    · simp [Lib.runeCells,Lib.encodeRuneZ_two (r:=(n:Int)) (by omega) (by omega)]
    · split
      · simp [Lib.runeCells,Lib.encodeRuneZ_three (r:=(n:Int)) (by omega)]
      · simp [Lib.runeCells,Lib.encodeRuneZ_four (r:=(n:Int)) (by omega) (by omega)]
set_option maxRecDepth 100000 in
set_option maxHeartbeats 2000000 in
theorem brune_used (m B : Nat) (v : Value) (l : List UInt8) (r : Nat) (hr : r < 1114112) (hrn : ¬ (55296 ≤ r ∧ r ≤ 57343)) (hm : m < B) (hn : l.length + 4 ≤ 140737488355328) (w : World) (w0 : World) (h : At w m #[.pointer (some ⟨m, 0, none⟩), v] 65) (hrow : w.ownsRow B 5 1 v l.length (Lib.byteCells l)) (hB : B ≤ w.heap.size)
    (hck:Calls Tryz.prog 48 #[.pointer (some ⟨m,0,none⟩)] w0 fun e w'=>e = .returned (.tuple #[])∧w'=w) (hh:Below m w0 w) :
    Calls Tryz.prog 189 #[.pointer (some ⟨m,0,none⟩),.int .i32 (r:Int)] w0 fun e w'=>(∃ k,e = .returned (.tuple #[.int .i64 k,.nilIface]))∧BdI w' m B (l++(charL r).map UInt8.ofNat)∧Below m w0 w':=by
  have hap:Hid (Calls Tryz.prog 203 #[v,.int .i32 (r:Int)] w fun e w'=>∃ v',e = .returned v'∧w'.ownsRow B 5 1 v' (l.length+(Lib.runeCells (r:Int)).length) (Lib.byteCells l++Lib.runeCells (r:Int))∧∃ o,(w.alloc o).grownBy w' v.ownBlock) :=
    Any.utf8_AppendRune_plain Tryz.lays242 (by kernel_rfl) B v l.length (Lib.byteCells l) (r:Int) (by omega) (by omega) w hrow hn hB
  have hL:=hid (Lib.encodeRuneZ_length (r:Int))
  have hcl:Hid ((Lib.runeCells (r:Int)).length≤4):=by
    show _≤_
    unfold Lib.runeCells
    rw [List.length_map]
    exact hL.out.2
  have hrc:=hid (rune_cells hr hrn)
  have hlr:Hid (((charL r).map UInt8.ofNat).length=(Lib.runeCells (r:Int)).length):=by
    show _=_
    rw [hrc.out,Lib.byteCells_length]
  have hck':=hid hck
  have hh':=hid hh
  have h':=hid h
  have hrow':=hid hrow
  have hm':=hid hm
  have hB':=hid hB
  have hn':=hid hn
  have c0:w.cell? ⟨m,0,none⟩=some (.pointer (some ⟨m,0,none⟩)):=h.cell 0
  have c1:w.cell? ⟨m,1,none⟩=some v:=h.cell 1
  obtain ⟨so,cc,rfl⟩:=rowY_slice hrow
  obtain ⟨ln,hln⟩:∃ ln,Hid (l.length=ln):=⟨_,rfl⟩
  rw [hln.out] at hap hrow' c1 h' hn'
  have hnl:ln≤140737488355328:=by have:=hn'.out;omega
  clear hck h hrow hh hm hB hn hL
  go_enter Tryz.func189,Tryz.ntmps189
  go_wp2_with fail
  refine Calls.mono hck'.out ?_
  rintro e w1 ⟨rfl,hw1⟩
  obtain rfl:=hw1.symm
  clear hck' hw1
  go_wp2_with fail
  refine Calls.mono hap.out ?_
  rintro e w3 ⟨v',rfl,hown3,o,hg⟩
  obtain ⟨so3,cc3,rfl⟩:=rowY_slice hown3
  have h2:=hid (h'.out.alloc o)
  have hrow2:=hid (World.ownsRow.alloc hrow'.out o)
  have a1:At w3 m #[.pointer (some ⟨m,0,none⟩),.slice so ln cc] 65:=(hg.block m h2.out.lt (fun e=>by have:=(hrow2.out.lt m e.symm).1;have:=hm'.out;omega)).trans h2.out
  have f1:w3.frozen? ⟨m,1,none⟩=false:=a1.frozen 1
  have d1:w3.cell? ⟨m,1,none⟩=some (.slice so ln cc):=a1.cell 1
  have d0:w3.cell? ⟨m,0,none⟩=some (.pointer (some ⟨m,0,none⟩)):=a1.cell 0
  obtain ⟨L3,hL3⟩:∃ L3,Hid (ln+(Lib.runeCells (r:Int)).length=L3):=⟨_,rfl⟩
  rw [hL3.out] at hown3
  rw [hL3.out]
  have hL3b:L3≤140737488355328:=by have:=hL3.out;have:=hcl.out;have:=hn'.out;omega
  have hL3c:ln≤L3:=by have:=hL3.out;omega
  have a1':=hid a1
  have hown3':=hid hown3
  have hg':=hid hg
  clear a1 hown3 hg hap
  go_wp2
  refine bodyPost_ret (v:=.tuple #[.int .i64 ((L3:Int)-(ln:Int)),.nilIface]) (by simp [results,Tryz.results189,go_sem];try decide) rfl ⟨⟨_,rfl⟩,?_,?_⟩
  · have a2:At (w3.setCell ⟨m,1,none⟩ (.slice so3 L3 cc3)) m #[.pointer (some ⟨m,0,none⟩),.slice so3 L3 cc3] 65:=by have:=a1'.out.set 1 (.slice so3 L3 cc3);simpa using this
    refine ⟨_,_,a2,.inr rfl,?_⟩
    have h3:=ownsRow_setCell_below hown3'.out (a:=⟨m,1,none⟩) hm'.out (.slice so3 L3 cc3)
    rw [List.length_append,hlr.out,hln.out,hL3.out,Lib.byteCells_append,← hrc.out]
    exact h3
  · have h4:Below m (w.alloc o) (w3.setCell ⟨m,1,none⟩ (.slice so3 L3 cc3)):=((Below.refl m _).grown hg'.out (by have:=h2.out.lt;omega) (fun b e=>by have:=(hrow2.out.lt b e).1;have:=hm'.out;omega)).setCell (p:=⟨m,1,none⟩) (Nat.le_refl _) _
    exact hh'.out.trans (((Below.refl _ _).alloc (Nat.le_trans (Nat.le_of_lt hm'.out) hB'.out) _).trans h4)
theorem brune_calls (m B : Nat) (l : List UInt8) (r : Nat) (hr : r < 1114112) (hrn : ¬ (55296 ≤ r ∧ r ≤ 57343)) (hm : m < B) (hn : l.length + 4 ≤ 140737488355328) (w : World) (h : BdI w m B l) (hB : B ≤ w.heap.size) :
    Calls Tryz.prog 189 #[.pointer (some ⟨m,0,none⟩),.int .i32 (r:Int)] w fun e w'=>(∃ k,e = .returned (.tuple #[.int .i64 k,.nilIface]))∧BdI w' m B (l++(charL r).map UInt8.ofNat)∧Below m w w':=by
  obtain ⟨p,v,h1,rfl | rfl,h2⟩:=h
  · have a1:At (w.setCell ⟨m,0,none⟩ (.pointer (some ⟨m,0,none⟩))) m #[.pointer (some ⟨m,0,none⟩),v] 65:=by have:=h1.set 0 (.pointer (some ⟨m,0,none⟩));simpa using this
    exact brune_used m B v l r hr hrn hm hn _ w a1 (ownsRow_setCell_below h2 (a:=⟨m,0,none⟩) hm _) (Nat.le_trans hB (KeepsOthers.setCell w ⟨m,0,none⟩ (.pointer (some ⟨m,0,none⟩))).1) (bcheck_fresh m v w h1) ((Below.refl m w).setCell (p:=⟨m,0,none⟩) (Nat.le_refl _) _)
  · exact brune_used m B v l r hr hrn hm hn w w h1 h2 hB (bcheck_used m v w h1) (Below.refl _ _)
end Go.Proofs.YtongedjlmohogaaGreatDoor

namespace Go.Proofs.YtongedjlmohogaaGreatDoor
open Go.RowKit Go.Shelf
theorem BdI.fresh15 (w:World):BdI (w.alloc (.cells #[.pointer none,.slice none 0 0] 65)) w.heap.size (w.heap.size+1) []:=⟨_,_,At.new w _ _,.inl rfl,World.ownsRow_nil _ _ _ _⟩
def bU (o:List Nat):List UInt8:=o.map UInt8.ofNat
theorem bU_app (a b:List Nat):bU (a++b)=bU a++bU b:=List.map_append
theorem bU_len (a:List Nat):(bU a).length=a.length:=List.length_map _
theorem bU_mk (o:List Nat):(⟨(bU o).toArray⟩:ByteArray)=mkS o:=rfl
theorem bU_byts (r:ByteArray):bU (byts r)=r.data.toList:=by
 unfold bU byts
 rw [List.map_map]
 have:(UInt8.ofNat ∘ UInt8.toNat)=id:=by
  funext x
  simp
 rw [this,List.map_id]
theorem bU_head (r:ByteArray) (k:Nat):(r.extract 0 k).data.toList=bU ((byts r).take k):=by
 rw [← bU_byts,byts_extract]
 simp
theorem none_from {r:ByteArray} (h:r.size=0):r=⟨#[]⟩:=byts_inj (List.eq_nil_of_length_eq_zero (by rw [byts_length];exact h))
theorem some_from {r:ByteArray} (h:r.size≠0):(r.toList == [])=false:=by
 rw [beq_eq_false_iff_ne]
 intro e
 apply h
 have h2:r.data.toList=[]:=by rw [← Lib.toList_data,e]
 rw [← byts_length,byts,h2]
 rfl
def UnI (s:ByteArray) (m:Nat) (w1:World) (r:ByteArray) (o:List Nat) (wr:World):Prop:=UnR s r o∧BdI wr m (m+1) (bU o)∧m+1≤wr.heap.size∧Below m w1 wr
set_option maxRecDepth 10000 in
set_option maxHeartbeats 4000000 in
theorem unP_big (s:ByteArray) (hs:s.size≤4611686018427387904) (hL:Hid (∀ r o,UnR s r o→o.length≤140737488351232)) (T:ByteArray) (E:Int) (hU:Hid (unS s=(T,E))) (w:World) :
  Calls Tryz.prog 170 #[.string s] w fun e w'=>e = .returned (.tuple #[.string T,.int .i64 E])∧Below w.heap.size w w':=by
 have hbad:=hid (badF_calls s (by omega) w)
 obtain ⟨B,hB⟩:∃ B,Hid (badOf s=B):=⟨_,rfl⟩
 rw [hB.out] at hbad
 go_enter Tryz.func170,Tryz.ntmps170
 go_wp2_with fail
 refine Calls.mono hbad.out ?_
 rintro e w1 ⟨rfl,hb1⟩
 have hb1':=hid hb1
 clear hbad hb1
 by_cases hB0:0≤B
 ·have hT:Hid (T=⟨#[]⟩∧E=50):=by
   have h:=hU.out
   unfold unS at h
   rw [hB.out,if_pos hB0] at h
   simp only [Prod.mk.injEq] at h
   exact ⟨h.1.symm,h.2.symm⟩
  obtain ⟨rfl,rfl⟩:=hT.out
  clear hT hU
  go_wp2
  exact bodyPost_ret (v:=.tuple #[.string ⟨#[]⟩,.int .i64 50]) (by simp [results,Tryz.results170,go_sem];try decide) rfl ⟨rfl,hb1'.out⟩
 ·have hB1:decide (0≤B)=false:=by simp;omega
  have hUn:Hid ((match unescL (byts s) with | none=>(⟨#[]⟩,150) | some o=>(mkS o,0))=(T,E)):=by
   have h:=hU.out
   unfold unS at h
   rw [hB.out,if_neg hB0] at h
   exact h
  clear hB0 hU
  have hI0:=hid (show UnI s w1.heap.size w1 s [] (w1.alloc (.cells #[.pointer none,.slice none 0 0] 65)) from ⟨⟨by simp,by simp,by simp⟩,BdI.fresh15 w1,by rw [World.size_alloc];exact Nat.le_refl _,(Below.refl _ _).alloc (Nat.le_refl _) _⟩)
  obtain ⟨W0,hW0⟩:∃ W,w1.alloc (.cells #[.pointer none,.slice none 0 0] 65)=W:=⟨_,rfl⟩
  obtain ⟨m,hm⟩:∃ m,w1.heap.size=m:=⟨_,rfl⟩
  rw [hW0,hm] at hI0
  have hb1s:=hb1'.out.size
  rw [hm] at hb1s
  replace hb1s:=hid hb1s
  go_wp2
  clear hW0
  replace hm:=hid hm
  go_loopw [5,6,7] (fun r0 _ _ wr=>∃ (r:ByteArray) (o:List Nat),r0 = .string r∧Hid (UnI s m w1 r o wr)) (fun r0 _ _ _=>strSz r0)
  case atStart=>exact ⟨s,[],rfl,hI0⟩
  case round =>
   obtain ⟨r,o,rfl,hI⟩:=hrel
   have hrl:r.size≤4611686018427387904:=by have:=hI.out.1.2.2;omega
   obtain ⟨k,hk⟩:∃ k,Hid (IsPl r k):=pl_ex r
   have hkl:k≤r.size:=hk.out.1
   have hki:(k:Int)≤(r.size:Int):=by omega
   have hpl:=hid (fun (u:World)=>plainP_calls r (by omega) k hk u)
   obtain ⟨rh,hrh⟩:∃ x,r.extract 0 k=x:=⟨_,rfl⟩
   obtain ⟨r1,hr1⟩:∃ x,r.extract k r.size=x:=⟨_,rfl⟩
   have hrh':=hid hrh
   have hb1r:Hid (byts r1=(byts r).drop k):=by show _=_;rw [← hr1];exact (byts_from r k).1
   have hr1s:Hid (r1.size=r.size-k):=by show _=_;rw [← hr1];exact (byts_from r k).2
   obtain ⟨o1,ho1⟩:∃ x,Hid (o++(byts r).take k=x):=⟨_,rfl⟩
   have hR1:Hid (UnR s r1 o1):=by
    rw [← ho1.out]
    exact UnR.plain k hI.out.1 hkl hk.out.2.1 hb1r.out
   have hrhs:Hid ((bU o).length+rh.size≤140737488355328):=by
    have h1:=hL.out _ _ hR1.out
    rw [← ho1.out,List.length_append,List.length_take,byts_length] at h1
    show _≤_
    rw [bU_len,← byts_length rh,← hrh'.out,byts_extract,List.length_take,List.length_drop,byts_length]
    omega
   have hws:=hid (bstr_calls m (m+1) (bU o) rh (by omega) hrhs.out wr hI.out.2.1 hI.out.2.2.1)
   go_wp2_with fail
   refine Calls.mono (hpl.out _) ?_
   rintro e wq ⟨rfl,hq⟩
   obtain rfl:=hq.symm
   clear hq hpl
   go_wp2_with fail
   refine Calls.mono hws.out ?_
   rintro e w2 ⟨rfl,hbd2,hb2⟩
   have hI2:Hid (UnI s m w1 r1 o1 w2):=by
    refine ⟨hR1.out,?_,Nat.le_trans hI.out.2.2.1 hb2.size,hI.out.2.2.2.trans hb2⟩
    rw [← ho1.out,bU_app,← bU_head,hrh'.out]
    exact hbd2
   clear hbd2 hb2 hws hrh hrh' hrhs
   by_cases hz:r1.size=0
   ·have hun:Hid (T=mkS o1∧E=0):=by
     have h:=hUn.out
     have h2:=hI2.out.1.1
     rw [none_from hz] at h2
     rw [h2,show byts ⟨#[]⟩=[] from rfl,unescL_nil] at h
     simp only [Option.map_some,List.append_nil,Prod.mk.injEq] at h
     exact ⟨h.1.symm,h.2.symm⟩
    obtain ⟨rfl,rfl⟩:=hun.out
    have hst:=hid (bstring_calls m (m+1) m (bU o1) w2 hI2.out.2.1 (by omega) hI2.out.2.2.1)
    rw [bU_mk] at hst
    have hr0:=none_from hz
    subst hr0
    clear hz hun
    go_wp2_with fail
    refine Calls.mono hst.out ?_
    rintro e w3 ⟨rfl,hb3,-⟩
    have hfin:Hid (Below w.heap.size w w3):=hb1'.out.trans ((hI2.out.2.2.2.trans hb3).mono hb1s.out)
    clear hst hb3
    go_wp2
    exact bodyPost_ret (v:=.tuple #[.string (mkS o1),.int .i64 0]) (by simp [results,Tryz.results170,go_sem];try decide) rfl ⟨rfl,hfin.out⟩
   ·have hne:=some_from hz
    have hr1l:r1.size≤4611686018427387904:=by have:=hr1s.out;omega
    obtain ⟨M,Z,hM⟩:∃ M Z,Hid (meanL (byts r1)=(M,Z)):=⟨_,_,rfl⟩
    have hme:=hid (fun (u:World)=>meanP_calls r1 (by omega) M Z hM u)
    have hml:=mean_lt (byts_lt r1)
    rw [hM.out,byts_length] at hml
    dsimp only at hml
    have hMl:Hid (M<1114112∧¬ (55296≤M∧M≤57343)):=⟨hml.1,hml.2.1⟩
    have hMi:(M:Int)<1114112:=by omega
    have hZl:Z≤r1.size:=hml.2.2
    have hZi:(Z:Int)≤(r1.size:Int):=by omega
    have hnp:plTB (lb (byts r1) 0)=false:=by
     rw [hb1r.out,lb_drop]
     dsimp only
     rw [Nat.add_zero,← bAt_lb]
     exact hk.out.2.2 (by have:=hr1s.out;omega)
    have hst:=hid (step_mean hnp)
    rw [hM.out] at hst
    dsimp only at hst
    have hnl:Hid (byts r1≠[]):=fun e=>hz (by rw [← byts_length,e];rfl)
    clear hml hnp
    go_wp2_with fail
    refine Calls.mono (hme.out _) ?_
    rintro e wq ⟨rfl,hq⟩
    obtain rfl:=hq.symm
    clear hq hme
    by_cases hZ0:Z=0
    ·subst hZ0
     have hun:Hid (T=⟨#[]⟩∧E=150):=by
      have h:=hUn.out
      have h2:=hI2.out.1.1
      have h3:=hst.out
      rw [if_pos rfl] at h3
      rw [unescL_none hnl.out h3] at h2
      rw [h2] at h
      simp only [Option.map_none,Prod.mk.injEq] at h
      exact ⟨h.1.symm,h.2.symm⟩
     obtain ⟨rfl,rfl⟩:=hun.out
     have hfin:Hid (Below w.heap.size w w2):=hb1'.out.trans (hI2.out.2.2.2.mono hb1s.out)
     clear hun
     go_wp2
     exact bodyPost_ret (v:=.tuple #[.string ⟨#[]⟩,.int .i64 150]) (by simp [results,Tryz.results170,go_sem];try decide) rfl ⟨rfl,hfin.out⟩
    ·have hZ1:((Z:Int) == 0)=false:=by simp;omega
     have ho1l:Hid (o1.length≤140737488351232):=hL.out _ _ hI2.out.1
     have hru:=hid (brune_calls m (m+1) (bU o1) M hMl.out.1 hMl.out.2 (by omega) (by rw [bU_len];have:=ho1l.out;omega) w2 hI2.out.2.1 hI2.out.2.2.1)
     obtain ⟨r3,hr3⟩:∃ x,r1.extract Z r1.size=x:=⟨_,rfl⟩
     have hR3:Hid (UnR s r3 (o1++charL M)∧r3.size<r1.size):=by
      have h3:=hst.out
      rw [if_neg hZ0] at h3
      exact UnR.step hI2.out.1 (by omega) h3 (by rw [← hr3];exact (byts_from r1 Z).1)
     clear hZ0
     go_wp2_with fail
     refine Calls.mono hru.out ?_
     rintro e w3 ⟨⟨kk,rfl⟩,hbd3,hb3⟩
     have hI3:Hid (UnI s m w1 r3 (o1++charL M) w3):=by
      refine ⟨hR3.out.1,?_,Nat.le_trans hI2.out.2.2.1 hb3.size,hI2.out.2.2.2.trans hb3⟩
      rw [bU_app]
      exact hbd3
     clear hbd3 hb3 hru
     go_wp2
     go_roundw
     case rel=>exact ⟨r3,_,rfl,hI3⟩
     case measure=>simp [strSz];have:=hR3.out.2;have:=hr1s.out;omega
theorem unP_calls (s:ByteArray) (hs:s.size≤140737488351232) (T:ByteArray) (E:Int) (hU:Hid (unS s=(T,E))) (w:World) :
  Calls Tryz.prog 170 #[.string s] w fun e w'=>e = .returned (.tuple #[.string T,.int .i64 E])∧Below w.heap.size w w' :=
 unP_big s (by omega) (hid (fun r o h=>by have:=h.2.2;omega)) T E hU w
end Go.Proofs.YtongedjlmohogaaGreatDoor

namespace Go.Proofs.YtongedjlmohogaaGreatDoor
open Go.RowKit Go.Shelf
set_option maxRecDepth 10000 in
theorem written34 (w:World):Calls Tryz.prog 82 #[.int .i32 34] w fun e w'=>e = .returned (.string (mkS (oneL 34)))∧Below w.heap.size w w':=by
 go_enter Tryz.func82,Tryz.ntmps82
 go_wp2
 go_ret
 exact ⟨rfl,by exact bw⟩
set_option maxRecDepth 10000 in
theorem written92 (w:World):Calls Tryz.prog 82 #[.int .i32 92] w fun e w'=>e = .returned (.string (mkS (oneL 92)))∧Below w.heap.size w w':=by
 go_enter Tryz.func82,Tryz.ntmps82
 go_wp2
 go_ret
 exact ⟨rfl,by exact bw⟩
set_option maxRecDepth 10000 in
theorem written8 (w:World):Calls Tryz.prog 82 #[.int .i32 8] w fun e w'=>e = .returned (.string (mkS (oneL 8)))∧Below w.heap.size w w':=by
 go_enter Tryz.func82,Tryz.ntmps82
 go_wp2
 go_ret
 exact ⟨rfl,by exact bw⟩
set_option maxRecDepth 10000 in
theorem written12 (w:World):Calls Tryz.prog 82 #[.int .i32 12] w fun e w'=>e = .returned (.string (mkS (oneL 12)))∧Below w.heap.size w w':=by
 go_enter Tryz.func82,Tryz.ntmps82
 go_wp2
 go_ret
 exact ⟨rfl,by exact bw⟩
set_option maxRecDepth 10000 in
theorem written10 (w:World):Calls Tryz.prog 82 #[.int .i32 10] w fun e w'=>e = .returned (.string (mkS (oneL 10)))∧Below w.heap.size w w':=by
 go_enter Tryz.func82,Tryz.ntmps82
 go_wp2
 go_ret
 exact ⟨rfl,by exact bw⟩
set_option maxRecDepth 10000 in
theorem written13 (w:World):Calls Tryz.prog 82 #[.int .i32 13] w fun e w'=>e = .returned (.string (mkS (oneL 13)))∧Below w.heap.size w w':=by
 go_enter Tryz.func82,Tryz.ntmps82
 go_wp2
 go_ret
 exact ⟨rfl,by exact bw⟩
set_option maxRecDepth 10000 in
theorem written9 (w:World):Calls Tryz.prog 82 #[.int .i32 9] w fun e w'=>e = .returned (.string (mkS (oneL 9)))∧Below w.heap.size w w':=by
 go_enter Tryz.func82,Tryz.ntmps82
 go_wp2
 go_ret
 exact ⟨rfl,by exact bw⟩
set_option maxRecDepth 10000 in
theorem written0 (w:World):Calls Tryz.prog 82 #[.int .i32 0] w fun e w'=>e = .returned (.string (mkS (oneL 0)))∧Below w.heap.size w w':=by
 have h0:∀ u:World,(Instr.index 9 (.string ⟨#[48,49,50,51,52,53,54,55,56,57,97,98,99,100,101,102]⟩) (.int .i32 0)).run Tryz.prog u = .ok (.int .u8 48) u:=fun u=>by kernel_rfl
 have c0:∀ u:World,(convert 5 9 (.int .u8 48)).run Tryz.prog u = .ok (.string ⟨#[48]⟩) u:=fun u=>by kernel_rfl
 have k0:IntKind.i32.wrap 0=0:=by decide
 go_enter Tryz.func82,Tryz.ntmps82
 go_wp2_with fail
 go_quiet (fail)
 go_wp2
 go_ret
 exact ⟨rfl,below_drewN (Below.refl _ _) _⟩
set_option maxRecDepth 10000 in
theorem written1 (w:World):Calls Tryz.prog 82 #[.int .i32 1] w fun e w'=>e = .returned (.string (mkS (oneL 1)))∧Below w.heap.size w w':=by
 have h0:∀ u:World,(Instr.index 9 (.string ⟨#[48,49,50,51,52,53,54,55,56,57,97,98,99,100,101,102]⟩) (.int .i32 0)).run Tryz.prog u = .ok (.int .u8 48) u:=fun u=>by kernel_rfl
 have c0:∀ u:World,(convert 5 9 (.int .u8 48)).run Tryz.prog u = .ok (.string ⟨#[48]⟩) u:=fun u=>by kernel_rfl
 have k0:IntKind.i32.wrap 0=0:=by decide
 have h1:∀ u:World,(Instr.index 9 (.string ⟨#[48,49,50,51,52,53,54,55,56,57,97,98,99,100,101,102]⟩) (.int .i32 1)).run Tryz.prog u = .ok (.int .u8 49) u:=fun u=>by kernel_rfl
 have c1:∀ u:World,(convert 5 9 (.int .u8 49)).run Tryz.prog u = .ok (.string ⟨#[49]⟩) u:=fun u=>by kernel_rfl
 have k1:IntKind.i32.wrap 1=1:=by decide
 go_enter Tryz.func82,Tryz.ntmps82
 go_wp2_with fail
 go_quiet (fail)
 go_wp2
 go_ret
 exact ⟨rfl,below_drewN (Below.refl _ _) _⟩
set_option maxRecDepth 10000 in
theorem written2 (w:World):Calls Tryz.prog 82 #[.int .i32 2] w fun e w'=>e = .returned (.string (mkS (oneL 2)))∧Below w.heap.size w w':=by
 have h0:∀ u:World,(Instr.index 9 (.string ⟨#[48,49,50,51,52,53,54,55,56,57,97,98,99,100,101,102]⟩) (.int .i32 0)).run Tryz.prog u = .ok (.int .u8 48) u:=fun u=>by kernel_rfl
 have c0:∀ u:World,(convert 5 9 (.int .u8 48)).run Tryz.prog u = .ok (.string ⟨#[48]⟩) u:=fun u=>by kernel_rfl
 have k0:IntKind.i32.wrap 0=0:=by decide
 have h1:∀ u:World,(Instr.index 9 (.string ⟨#[48,49,50,51,52,53,54,55,56,57,97,98,99,100,101,102]⟩) (.int .i32 2)).run Tryz.prog u = .ok (.int .u8 50) u:=fun u=>by kernel_rfl
 have c1:∀ u:World,(convert 5 9 (.int .u8 50)).run Tryz.prog u = .ok (.string ⟨#[50]⟩) u:=fun u=>by kernel_rfl
 have k1:IntKind.i32.wrap 2=2:=by decide
 go_enter Tryz.func82,Tryz.ntmps82
 go_wp2_with fail
 go_quiet (fail)
 go_wp2
 go_ret
 exact ⟨rfl,below_drewN (Below.refl _ _) _⟩
set_option maxRecDepth 10000 in
theorem written3 (w:World):Calls Tryz.prog 82 #[.int .i32 3] w fun e w'=>e = .returned (.string (mkS (oneL 3)))∧Below w.heap.size w w':=by
 have h0:∀ u:World,(Instr.index 9 (.string ⟨#[48,49,50,51,52,53,54,55,56,57,97,98,99,100,101,102]⟩) (.int .i32 0)).run Tryz.prog u = .ok (.int .u8 48) u:=fun u=>by kernel_rfl
 have c0:∀ u:World,(convert 5 9 (.int .u8 48)).run Tryz.prog u = .ok (.string ⟨#[48]⟩) u:=fun u=>by kernel_rfl
 have k0:IntKind.i32.wrap 0=0:=by decide
 have h1:∀ u:World,(Instr.index 9 (.string ⟨#[48,49,50,51,52,53,54,55,56,57,97,98,99,100,101,102]⟩) (.int .i32 3)).run Tryz.prog u = .ok (.int .u8 51) u:=fun u=>by kernel_rfl
 have c1:∀ u:World,(convert 5 9 (.int .u8 51)).run Tryz.prog u = .ok (.string ⟨#[51]⟩) u:=fun u=>by kernel_rfl
 have k1:IntKind.i32.wrap 3=3:=by decide
 go_enter Tryz.func82,Tryz.ntmps82
 go_wp2_with fail
 go_quiet (fail)
 go_wp2
 go_ret
 exact ⟨rfl,below_drewN (Below.refl _ _) _⟩
set_option maxRecDepth 10000 in
theorem written4 (w:World):Calls Tryz.prog 82 #[.int .i32 4] w fun e w'=>e = .returned (.string (mkS (oneL 4)))∧Below w.heap.size w w':=by
 have h0:∀ u:World,(Instr.index 9 (.string ⟨#[48,49,50,51,52,53,54,55,56,57,97,98,99,100,101,102]⟩) (.int .i32 0)).run Tryz.prog u = .ok (.int .u8 48) u:=fun u=>by kernel_rfl
 have c0:∀ u:World,(convert 5 9 (.int .u8 48)).run Tryz.prog u = .ok (.string ⟨#[48]⟩) u:=fun u=>by kernel_rfl
 have k0:IntKind.i32.wrap 0=0:=by decide
 have h1:∀ u:World,(Instr.index 9 (.string ⟨#[48,49,50,51,52,53,54,55,56,57,97,98,99,100,101,102]⟩) (.int .i32 4)).run Tryz.prog u = .ok (.int .u8 52) u:=fun u=>by kernel_rfl
 have c1:∀ u:World,(convert 5 9 (.int .u8 52)).run Tryz.prog u = .ok (.string ⟨#[52]⟩) u:=fun u=>by kernel_rfl
 have k1:IntKind.i32.wrap 4=4:=by decide
 go_enter Tryz.func82,Tryz.ntmps82
 go_wp2_with fail
 go_quiet (fail)
 go_wp2
 go_ret
 exact ⟨rfl,below_drewN (Below.refl _ _) _⟩
set_option maxRecDepth 10000 in
theorem written5 (w:World):Calls Tryz.prog 82 #[.int .i32 5] w fun e w'=>e = .returned (.string (mkS (oneL 5)))∧Below w.heap.size w w':=by
 have h0:∀ u:World,(Instr.index 9 (.string ⟨#[48,49,50,51,52,53,54,55,56,57,97,98,99,100,101,102]⟩) (.int .i32 0)).run Tryz.prog u = .ok (.int .u8 48) u:=fun u=>by kernel_rfl
 have c0:∀ u:World,(convert 5 9 (.int .u8 48)).run Tryz.prog u = .ok (.string ⟨#[48]⟩) u:=fun u=>by kernel_rfl
 have k0:IntKind.i32.wrap 0=0:=by decide
 have h1:∀ u:World,(Instr.index 9 (.string ⟨#[48,49,50,51,52,53,54,55,56,57,97,98,99,100,101,102]⟩) (.int .i32 5)).run Tryz.prog u = .ok (.int .u8 53) u:=fun u=>by kernel_rfl
 have c1:∀ u:World,(convert 5 9 (.int .u8 53)).run Tryz.prog u = .ok (.string ⟨#[53]⟩) u:=fun u=>by kernel_rfl
 have k1:IntKind.i32.wrap 5=5:=by decide
 go_enter Tryz.func82,Tryz.ntmps82
 go_wp2_with fail
 go_quiet (fail)
 go_wp2
 go_ret
 exact ⟨rfl,below_drewN (Below.refl _ _) _⟩
set_option maxRecDepth 10000 in
theorem written6 (w:World):Calls Tryz.prog 82 #[.int .i32 6] w fun e w'=>e = .returned (.string (mkS (oneL 6)))∧Below w.heap.size w w':=by
 have h0:∀ u:World,(Instr.index 9 (.string ⟨#[48,49,50,51,52,53,54,55,56,57,97,98,99,100,101,102]⟩) (.int .i32 0)).run Tryz.prog u = .ok (.int .u8 48) u:=fun u=>by kernel_rfl
 have c0:∀ u:World,(convert 5 9 (.int .u8 48)).run Tryz.prog u = .ok (.string ⟨#[48]⟩) u:=fun u=>by kernel_rfl
 have k0:IntKind.i32.wrap 0=0:=by decide
 have h1:∀ u:World,(Instr.index 9 (.string ⟨#[48,49,50,51,52,53,54,55,56,57,97,98,99,100,101,102]⟩) (.int .i32 6)).run Tryz.prog u = .ok (.int .u8 54) u:=fun u=>by kernel_rfl
 have c1:∀ u:World,(convert 5 9 (.int .u8 54)).run Tryz.prog u = .ok (.string ⟨#[54]⟩) u:=fun u=>by kernel_rfl
 have k1:IntKind.i32.wrap 6=6:=by decide
 go_enter Tryz.func82,Tryz.ntmps82
 go_wp2_with fail
 go_quiet (fail)
 go_wp2
 go_ret
 exact ⟨rfl,below_drewN (Below.refl _ _) _⟩
set_option maxRecDepth 10000 in
theorem written7 (w:World):Calls Tryz.prog 82 #[.int .i32 7] w fun e w'=>e = .returned (.string (mkS (oneL 7)))∧Below w.heap.size w w':=by
 have h0:∀ u:World,(Instr.index 9 (.string ⟨#[48,49,50,51,52,53,54,55,56,57,97,98,99,100,101,102]⟩) (.int .i32 0)).run Tryz.prog u = .ok (.int .u8 48) u:=fun u=>by kernel_rfl
 have c0:∀ u:World,(convert 5 9 (.int .u8 48)).run Tryz.prog u = .ok (.string ⟨#[48]⟩) u:=fun u=>by kernel_rfl
 have k0:IntKind.i32.wrap 0=0:=by decide
 have h1:∀ u:World,(Instr.index 9 (.string ⟨#[48,49,50,51,52,53,54,55,56,57,97,98,99,100,101,102]⟩) (.int .i32 7)).run Tryz.prog u = .ok (.int .u8 55) u:=fun u=>by kernel_rfl
 have c1:∀ u:World,(convert 5 9 (.int .u8 55)).run Tryz.prog u = .ok (.string ⟨#[55]⟩) u:=fun u=>by kernel_rfl
 have k1:IntKind.i32.wrap 7=7:=by decide
 go_enter Tryz.func82,Tryz.ntmps82
 go_wp2_with fail
 go_quiet (fail)
 go_wp2
 go_ret
 exact ⟨rfl,below_drewN (Below.refl _ _) _⟩
set_option maxRecDepth 10000 in
theorem written11 (w:World):Calls Tryz.prog 82 #[.int .i32 11] w fun e w'=>e = .returned (.string (mkS (oneL 11)))∧Below w.heap.size w w':=by
 have h0:∀ u:World,(Instr.index 9 (.string ⟨#[48,49,50,51,52,53,54,55,56,57,97,98,99,100,101,102]⟩) (.int .i32 0)).run Tryz.prog u = .ok (.int .u8 48) u:=fun u=>by kernel_rfl
 have c0:∀ u:World,(convert 5 9 (.int .u8 48)).run Tryz.prog u = .ok (.string ⟨#[48]⟩) u:=fun u=>by kernel_rfl
 have k0:IntKind.i32.wrap 0=0:=by decide
 have h1:∀ u:World,(Instr.index 9 (.string ⟨#[48,49,50,51,52,53,54,55,56,57,97,98,99,100,101,102]⟩) (.int .i32 11)).run Tryz.prog u = .ok (.int .u8 98) u:=fun u=>by kernel_rfl
 have c1:∀ u:World,(convert 5 9 (.int .u8 98)).run Tryz.prog u = .ok (.string ⟨#[98]⟩) u:=fun u=>by kernel_rfl
 have k1:IntKind.i32.wrap 11=11:=by decide
 go_enter Tryz.func82,Tryz.ntmps82
 go_wp2_with fail
 go_quiet (fail)
 go_wp2
 go_ret
 exact ⟨rfl,below_drewN (Below.refl _ _) _⟩
set_option maxRecDepth 10000 in
theorem written14 (w:World):Calls Tryz.prog 82 #[.int .i32 14] w fun e w'=>e = .returned (.string (mkS (oneL 14)))∧Below w.heap.size w w':=by
 have h0:∀ u:World,(Instr.index 9 (.string ⟨#[48,49,50,51,52,53,54,55,56,57,97,98,99,100,101,102]⟩) (.int .i32 0)).run Tryz.prog u = .ok (.int .u8 48) u:=fun u=>by kernel_rfl
 have c0:∀ u:World,(convert 5 9 (.int .u8 48)).run Tryz.prog u = .ok (.string ⟨#[48]⟩) u:=fun u=>by kernel_rfl
 have k0:IntKind.i32.wrap 0=0:=by decide
 have h1:∀ u:World,(Instr.index 9 (.string ⟨#[48,49,50,51,52,53,54,55,56,57,97,98,99,100,101,102]⟩) (.int .i32 14)).run Tryz.prog u = .ok (.int .u8 101) u:=fun u=>by kernel_rfl
 have c1:∀ u:World,(convert 5 9 (.int .u8 101)).run Tryz.prog u = .ok (.string ⟨#[101]⟩) u:=fun u=>by kernel_rfl
 have k1:IntKind.i32.wrap 14=14:=by decide
 go_enter Tryz.func82,Tryz.ntmps82
 go_wp2_with fail
 go_quiet (fail)
 go_wp2
 go_ret
 exact ⟨rfl,below_drewN (Below.refl _ _) _⟩
set_option maxRecDepth 10000 in
theorem written15 (w:World):Calls Tryz.prog 82 #[.int .i32 15] w fun e w'=>e = .returned (.string (mkS (oneL 15)))∧Below w.heap.size w w':=by
 have h0:∀ u:World,(Instr.index 9 (.string ⟨#[48,49,50,51,52,53,54,55,56,57,97,98,99,100,101,102]⟩) (.int .i32 0)).run Tryz.prog u = .ok (.int .u8 48) u:=fun u=>by kernel_rfl
 have c0:∀ u:World,(convert 5 9 (.int .u8 48)).run Tryz.prog u = .ok (.string ⟨#[48]⟩) u:=fun u=>by kernel_rfl
 have k0:IntKind.i32.wrap 0=0:=by decide
 have h1:∀ u:World,(Instr.index 9 (.string ⟨#[48,49,50,51,52,53,54,55,56,57,97,98,99,100,101,102]⟩) (.int .i32 15)).run Tryz.prog u = .ok (.int .u8 102) u:=fun u=>by kernel_rfl
 have c1:∀ u:World,(convert 5 9 (.int .u8 102)).run Tryz.prog u = .ok (.string ⟨#[102]⟩) u:=fun u=>by kernel_rfl
 have k1:IntKind.i32.wrap 15=15:=by decide
 go_enter Tryz.func82,Tryz.ntmps82
 go_wp2_with fail
 go_quiet (fail)
 go_wp2
 go_ret
 exact ⟨rfl,below_drewN (Below.refl _ _) _⟩
set_option maxRecDepth 10000 in
theorem written16 (w:World):Calls Tryz.prog 82 #[.int .i32 16] w fun e w'=>e = .returned (.string (mkS (oneL 16)))∧Below w.heap.size w w':=by
 have h0:∀ u:World,(Instr.index 9 (.string ⟨#[48,49,50,51,52,53,54,55,56,57,97,98,99,100,101,102]⟩) (.int .i32 0)).run Tryz.prog u = .ok (.int .u8 48) u:=fun u=>by kernel_rfl
 have c0:∀ u:World,(convert 5 9 (.int .u8 48)).run Tryz.prog u = .ok (.string ⟨#[48]⟩) u:=fun u=>by kernel_rfl
 have k0:IntKind.i32.wrap 0=0:=by decide
 have h1:∀ u:World,(Instr.index 9 (.string ⟨#[48,49,50,51,52,53,54,55,56,57,97,98,99,100,101,102]⟩) (.int .i32 1)).run Tryz.prog u = .ok (.int .u8 49) u:=fun u=>by kernel_rfl
 have c1:∀ u:World,(convert 5 9 (.int .u8 49)).run Tryz.prog u = .ok (.string ⟨#[49]⟩) u:=fun u=>by kernel_rfl
 have k1:IntKind.i32.wrap 1=1:=by decide
 go_enter Tryz.func82,Tryz.ntmps82
 go_wp2_with fail
 go_quiet (fail)
 go_wp2
 go_ret
 exact ⟨rfl,below_drewN (Below.refl _ _) _⟩
set_option maxRecDepth 10000 in
theorem written17 (w:World):Calls Tryz.prog 82 #[.int .i32 17] w fun e w'=>e = .returned (.string (mkS (oneL 17)))∧Below w.heap.size w w':=by
 have h0:∀ u:World,(Instr.index 9 (.string ⟨#[48,49,50,51,52,53,54,55,56,57,97,98,99,100,101,102]⟩) (.int .i32 1)).run Tryz.prog u = .ok (.int .u8 49) u:=fun u=>by kernel_rfl
 have c0:∀ u:World,(convert 5 9 (.int .u8 49)).run Tryz.prog u = .ok (.string ⟨#[49]⟩) u:=fun u=>by kernel_rfl
 have k0:IntKind.i32.wrap 1=1:=by decide
 go_enter Tryz.func82,Tryz.ntmps82
 go_wp2_with fail
 go_quiet (fail)
 go_wp2
 go_ret
 exact ⟨rfl,below_drewN (Below.refl _ _) _⟩
set_option maxRecDepth 10000 in
theorem written18 (w:World):Calls Tryz.prog 82 #[.int .i32 18] w fun e w'=>e = .returned (.string (mkS (oneL 18)))∧Below w.heap.size w w':=by
 have h0:∀ u:World,(Instr.index 9 (.string ⟨#[48,49,50,51,52,53,54,55,56,57,97,98,99,100,101,102]⟩) (.int .i32 1)).run Tryz.prog u = .ok (.int .u8 49) u:=fun u=>by kernel_rfl
 have c0:∀ u:World,(convert 5 9 (.int .u8 49)).run Tryz.prog u = .ok (.string ⟨#[49]⟩) u:=fun u=>by kernel_rfl
 have k0:IntKind.i32.wrap 1=1:=by decide
 have h1:∀ u:World,(Instr.index 9 (.string ⟨#[48,49,50,51,52,53,54,55,56,57,97,98,99,100,101,102]⟩) (.int .i32 2)).run Tryz.prog u = .ok (.int .u8 50) u:=fun u=>by kernel_rfl
 have c1:∀ u:World,(convert 5 9 (.int .u8 50)).run Tryz.prog u = .ok (.string ⟨#[50]⟩) u:=fun u=>by kernel_rfl
 have k1:IntKind.i32.wrap 2=2:=by decide
 go_enter Tryz.func82,Tryz.ntmps82
 go_wp2_with fail
 go_quiet (fail)
 go_wp2
 go_ret
 exact ⟨rfl,below_drewN (Below.refl _ _) _⟩
set_option maxRecDepth 10000 in
theorem written19 (w:World):Calls Tryz.prog 82 #[.int .i32 19] w fun e w'=>e = .returned (.string (mkS (oneL 19)))∧Below w.heap.size w w':=by
 have h0:∀ u:World,(Instr.index 9 (.string ⟨#[48,49,50,51,52,53,54,55,56,57,97,98,99,100,101,102]⟩) (.int .i32 1)).run Tryz.prog u = .ok (.int .u8 49) u:=fun u=>by kernel_rfl
 have c0:∀ u:World,(convert 5 9 (.int .u8 49)).run Tryz.prog u = .ok (.string ⟨#[49]⟩) u:=fun u=>by kernel_rfl
 have k0:IntKind.i32.wrap 1=1:=by decide
 have h1:∀ u:World,(Instr.index 9 (.string ⟨#[48,49,50,51,52,53,54,55,56,57,97,98,99,100,101,102]⟩) (.int .i32 3)).run Tryz.prog u = .ok (.int .u8 51) u:=fun u=>by kernel_rfl
 have c1:∀ u:World,(convert 5 9 (.int .u8 51)).run Tryz.prog u = .ok (.string ⟨#[51]⟩) u:=fun u=>by kernel_rfl
 have k1:IntKind.i32.wrap 3=3:=by decide
 go_enter Tryz.func82,Tryz.ntmps82
 go_wp2_with fail
 go_quiet (fail)
 go_wp2
 go_ret
 exact ⟨rfl,below_drewN (Below.refl _ _) _⟩
set_option maxRecDepth 10000 in
theorem written20 (w:World):Calls Tryz.prog 82 #[.int .i32 20] w fun e w'=>e = .returned (.string (mkS (oneL 20)))∧Below w.heap.size w w':=by
 have h0:∀ u:World,(Instr.index 9 (.string ⟨#[48,49,50,51,52,53,54,55,56,57,97,98,99,100,101,102]⟩) (.int .i32 1)).run Tryz.prog u = .ok (.int .u8 49) u:=fun u=>by kernel_rfl
 have c0:∀ u:World,(convert 5 9 (.int .u8 49)).run Tryz.prog u = .ok (.string ⟨#[49]⟩) u:=fun u=>by kernel_rfl
 have k0:IntKind.i32.wrap 1=1:=by decide
 have h1:∀ u:World,(Instr.index 9 (.string ⟨#[48,49,50,51,52,53,54,55,56,57,97,98,99,100,101,102]⟩) (.int .i32 4)).run Tryz.prog u = .ok (.int .u8 52) u:=fun u=>by kernel_rfl
 have c1:∀ u:World,(convert 5 9 (.int .u8 52)).run Tryz.prog u = .ok (.string ⟨#[52]⟩) u:=fun u=>by kernel_rfl
 have k1:IntKind.i32.wrap 4=4:=by decide
 go_enter Tryz.func82,Tryz.ntmps82
 go_wp2_with fail
 go_quiet (fail)
 go_wp2
 go_ret
 exact ⟨rfl,below_drewN (Below.refl _ _) _⟩
set_option maxRecDepth 10000 in
theorem written21 (w:World):Calls Tryz.prog 82 #[.int .i32 21] w fun e w'=>e = .returned (.string (mkS (oneL 21)))∧Below w.heap.size w w':=by
 have h0:∀ u:World,(Instr.index 9 (.string ⟨#[48,49,50,51,52,53,54,55,56,57,97,98,99,100,101,102]⟩) (.int .i32 1)).run Tryz.prog u = .ok (.int .u8 49) u:=fun u=>by kernel_rfl
 have c0:∀ u:World,(convert 5 9 (.int .u8 49)).run Tryz.prog u = .ok (.string ⟨#[49]⟩) u:=fun u=>by kernel_rfl
 have k0:IntKind.i32.wrap 1=1:=by decide
 have h1:∀ u:World,(Instr.index 9 (.string ⟨#[48,49,50,51,52,53,54,55,56,57,97,98,99,100,101,102]⟩) (.int .i32 5)).run Tryz.prog u = .ok (.int .u8 53) u:=fun u=>by kernel_rfl
 have c1:∀ u:World,(convert 5 9 (.int .u8 53)).run Tryz.prog u = .ok (.string ⟨#[53]⟩) u:=fun u=>by kernel_rfl
 have k1:IntKind.i32.wrap 5=5:=by decide
 go_enter Tryz.func82,Tryz.ntmps82
 go_wp2_with fail
 go_quiet (fail)
 go_wp2
 go_ret
 exact ⟨rfl,below_drewN (Below.refl _ _) _⟩
set_option maxRecDepth 10000 in
theorem written22 (w:World):Calls Tryz.prog 82 #[.int .i32 22] w fun e w'=>e = .returned (.string (mkS (oneL 22)))∧Below w.heap.size w w':=by
 have h0:∀ u:World,(Instr.index 9 (.string ⟨#[48,49,50,51,52,53,54,55,56,57,97,98,99,100,101,102]⟩) (.int .i32 1)).run Tryz.prog u = .ok (.int .u8 49) u:=fun u=>by kernel_rfl
 have c0:∀ u:World,(convert 5 9 (.int .u8 49)).run Tryz.prog u = .ok (.string ⟨#[49]⟩) u:=fun u=>by kernel_rfl
 have k0:IntKind.i32.wrap 1=1:=by decide
 have h1:∀ u:World,(Instr.index 9 (.string ⟨#[48,49,50,51,52,53,54,55,56,57,97,98,99,100,101,102]⟩) (.int .i32 6)).run Tryz.prog u = .ok (.int .u8 54) u:=fun u=>by kernel_rfl
 have c1:∀ u:World,(convert 5 9 (.int .u8 54)).run Tryz.prog u = .ok (.string ⟨#[54]⟩) u:=fun u=>by kernel_rfl
 have k1:IntKind.i32.wrap 6=6:=by decide
 go_enter Tryz.func82,Tryz.ntmps82
 go_wp2_with fail
 go_quiet (fail)
 go_wp2
 go_ret
 exact ⟨rfl,below_drewN (Below.refl _ _) _⟩
set_option maxRecDepth 10000 in
theorem written23 (w:World):Calls Tryz.prog 82 #[.int .i32 23] w fun e w'=>e = .returned (.string (mkS (oneL 23)))∧Below w.heap.size w w':=by
 have h0:∀ u:World,(Instr.index 9 (.string ⟨#[48,49,50,51,52,53,54,55,56,57,97,98,99,100,101,102]⟩) (.int .i32 1)).run Tryz.prog u = .ok (.int .u8 49) u:=fun u=>by kernel_rfl
 have c0:∀ u:World,(convert 5 9 (.int .u8 49)).run Tryz.prog u = .ok (.string ⟨#[49]⟩) u:=fun u=>by kernel_rfl
 have k0:IntKind.i32.wrap 1=1:=by decide
 have h1:∀ u:World,(Instr.index 9 (.string ⟨#[48,49,50,51,52,53,54,55,56,57,97,98,99,100,101,102]⟩) (.int .i32 7)).run Tryz.prog u = .ok (.int .u8 55) u:=fun u=>by kernel_rfl
 have c1:∀ u:World,(convert 5 9 (.int .u8 55)).run Tryz.prog u = .ok (.string ⟨#[55]⟩) u:=fun u=>by kernel_rfl
 have k1:IntKind.i32.wrap 7=7:=by decide
 go_enter Tryz.func82,Tryz.ntmps82
 go_wp2_with fail
 go_quiet (fail)
 go_wp2
 go_ret
 exact ⟨rfl,below_drewN (Below.refl _ _) _⟩
set_option maxRecDepth 10000 in
theorem written24 (w:World):Calls Tryz.prog 82 #[.int .i32 24] w fun e w'=>e = .returned (.string (mkS (oneL 24)))∧Below w.heap.size w w':=by
 have h0:∀ u:World,(Instr.index 9 (.string ⟨#[48,49,50,51,52,53,54,55,56,57,97,98,99,100,101,102]⟩) (.int .i32 1)).run Tryz.prog u = .ok (.int .u8 49) u:=fun u=>by kernel_rfl
 have c0:∀ u:World,(convert 5 9 (.int .u8 49)).run Tryz.prog u = .ok (.string ⟨#[49]⟩) u:=fun u=>by kernel_rfl
 have k0:IntKind.i32.wrap 1=1:=by decide
 have h1:∀ u:World,(Instr.index 9 (.string ⟨#[48,49,50,51,52,53,54,55,56,57,97,98,99,100,101,102]⟩) (.int .i32 8)).run Tryz.prog u = .ok (.int .u8 56) u:=fun u=>by kernel_rfl
 have c1:∀ u:World,(convert 5 9 (.int .u8 56)).run Tryz.prog u = .ok (.string ⟨#[56]⟩) u:=fun u=>by kernel_rfl
 have k1:IntKind.i32.wrap 8=8:=by decide
 go_enter Tryz.func82,Tryz.ntmps82
 go_wp2_with fail
 go_quiet (fail)
 go_wp2
 go_ret
 exact ⟨rfl,below_drewN (Below.refl _ _) _⟩
set_option maxRecDepth 10000 in
theorem written25 (w:World):Calls Tryz.prog 82 #[.int .i32 25] w fun e w'=>e = .returned (.string (mkS (oneL 25)))∧Below w.heap.size w w':=by
 have h0:∀ u:World,(Instr.index 9 (.string ⟨#[48,49,50,51,52,53,54,55,56,57,97,98,99,100,101,102]⟩) (.int .i32 1)).run Tryz.prog u = .ok (.int .u8 49) u:=fun u=>by kernel_rfl
 have c0:∀ u:World,(convert 5 9 (.int .u8 49)).run Tryz.prog u = .ok (.string ⟨#[49]⟩) u:=fun u=>by kernel_rfl
 have k0:IntKind.i32.wrap 1=1:=by decide
 have h1:∀ u:World,(Instr.index 9 (.string ⟨#[48,49,50,51,52,53,54,55,56,57,97,98,99,100,101,102]⟩) (.int .i32 9)).run Tryz.prog u = .ok (.int .u8 57) u:=fun u=>by kernel_rfl
 have c1:∀ u:World,(convert 5 9 (.int .u8 57)).run Tryz.prog u = .ok (.string ⟨#[57]⟩) u:=fun u=>by kernel_rfl
 have k1:IntKind.i32.wrap 9=9:=by decide
 go_enter Tryz.func82,Tryz.ntmps82
 go_wp2_with fail
 go_quiet (fail)
 go_wp2
 go_ret
 exact ⟨rfl,below_drewN (Below.refl _ _) _⟩
set_option maxRecDepth 10000 in
theorem written26 (w:World):Calls Tryz.prog 82 #[.int .i32 26] w fun e w'=>e = .returned (.string (mkS (oneL 26)))∧Below w.heap.size w w':=by
 have h0:∀ u:World,(Instr.index 9 (.string ⟨#[48,49,50,51,52,53,54,55,56,57,97,98,99,100,101,102]⟩) (.int .i32 1)).run Tryz.prog u = .ok (.int .u8 49) u:=fun u=>by kernel_rfl
 have c0:∀ u:World,(convert 5 9 (.int .u8 49)).run Tryz.prog u = .ok (.string ⟨#[49]⟩) u:=fun u=>by kernel_rfl
 have k0:IntKind.i32.wrap 1=1:=by decide
 have h1:∀ u:World,(Instr.index 9 (.string ⟨#[48,49,50,51,52,53,54,55,56,57,97,98,99,100,101,102]⟩) (.int .i32 10)).run Tryz.prog u = .ok (.int .u8 97) u:=fun u=>by kernel_rfl
 have c1:∀ u:World,(convert 5 9 (.int .u8 97)).run Tryz.prog u = .ok (.string ⟨#[97]⟩) u:=fun u=>by kernel_rfl
 have k1:IntKind.i32.wrap 10=10:=by decide
 go_enter Tryz.func82,Tryz.ntmps82
 go_wp2_with fail
 go_quiet (fail)
 go_wp2
 go_ret
 exact ⟨rfl,below_drewN (Below.refl _ _) _⟩
set_option maxRecDepth 10000 in
theorem written27 (w:World):Calls Tryz.prog 82 #[.int .i32 27] w fun e w'=>e = .returned (.string (mkS (oneL 27)))∧Below w.heap.size w w':=by
 have h0:∀ u:World,(Instr.index 9 (.string ⟨#[48,49,50,51,52,53,54,55,56,57,97,98,99,100,101,102]⟩) (.int .i32 1)).run Tryz.prog u = .ok (.int .u8 49) u:=fun u=>by kernel_rfl
 have c0:∀ u:World,(convert 5 9 (.int .u8 49)).run Tryz.prog u = .ok (.string ⟨#[49]⟩) u:=fun u=>by kernel_rfl
 have k0:IntKind.i32.wrap 1=1:=by decide
 have h1:∀ u:World,(Instr.index 9 (.string ⟨#[48,49,50,51,52,53,54,55,56,57,97,98,99,100,101,102]⟩) (.int .i32 11)).run Tryz.prog u = .ok (.int .u8 98) u:=fun u=>by kernel_rfl
 have c1:∀ u:World,(convert 5 9 (.int .u8 98)).run Tryz.prog u = .ok (.string ⟨#[98]⟩) u:=fun u=>by kernel_rfl
 have k1:IntKind.i32.wrap 11=11:=by decide
 go_enter Tryz.func82,Tryz.ntmps82
 go_wp2_with fail
 go_quiet (fail)
 go_wp2
 go_ret
 exact ⟨rfl,below_drewN (Below.refl _ _) _⟩
set_option maxRecDepth 10000 in
theorem written28 (w:World):Calls Tryz.prog 82 #[.int .i32 28] w fun e w'=>e = .returned (.string (mkS (oneL 28)))∧Below w.heap.size w w':=by
 have h0:∀ u:World,(Instr.index 9 (.string ⟨#[48,49,50,51,52,53,54,55,56,57,97,98,99,100,101,102]⟩) (.int .i32 1)).run Tryz.prog u = .ok (.int .u8 49) u:=fun u=>by kernel_rfl
 have c0:∀ u:World,(convert 5 9 (.int .u8 49)).run Tryz.prog u = .ok (.string ⟨#[49]⟩) u:=fun u=>by kernel_rfl
 have k0:IntKind.i32.wrap 1=1:=by decide
 have h1:∀ u:World,(Instr.index 9 (.string ⟨#[48,49,50,51,52,53,54,55,56,57,97,98,99,100,101,102]⟩) (.int .i32 12)).run Tryz.prog u = .ok (.int .u8 99) u:=fun u=>by kernel_rfl
 have c1:∀ u:World,(convert 5 9 (.int .u8 99)).run Tryz.prog u = .ok (.string ⟨#[99]⟩) u:=fun u=>by kernel_rfl
 have k1:IntKind.i32.wrap 12=12:=by decide
 go_enter Tryz.func82,Tryz.ntmps82
 go_wp2_with fail
 go_quiet (fail)
 go_wp2
 go_ret
 exact ⟨rfl,below_drewN (Below.refl _ _) _⟩
set_option maxRecDepth 10000 in
theorem written29 (w:World):Calls Tryz.prog 82 #[.int .i32 29] w fun e w'=>e = .returned (.string (mkS (oneL 29)))∧Below w.heap.size w w':=by
 have h0:∀ u:World,(Instr.index 9 (.string ⟨#[48,49,50,51,52,53,54,55,56,57,97,98,99,100,101,102]⟩) (.int .i32 1)).run Tryz.prog u = .ok (.int .u8 49) u:=fun u=>by kernel_rfl
 have c0:∀ u:World,(convert 5 9 (.int .u8 49)).run Tryz.prog u = .ok (.string ⟨#[49]⟩) u:=fun u=>by kernel_rfl
 have k0:IntKind.i32.wrap 1=1:=by decide
 have h1:∀ u:World,(Instr.index 9 (.string ⟨#[48,49,50,51,52,53,54,55,56,57,97,98,99,100,101,102]⟩) (.int .i32 13)).run Tryz.prog u = .ok (.int .u8 100) u:=fun u=>by kernel_rfl
 have c1:∀ u:World,(convert 5 9 (.int .u8 100)).run Tryz.prog u = .ok (.string ⟨#[100]⟩) u:=fun u=>by kernel_rfl
 have k1:IntKind.i32.wrap 13=13:=by decide
 go_enter Tryz.func82,Tryz.ntmps82
 go_wp2_with fail
 go_quiet (fail)
 go_wp2
 go_ret
 exact ⟨rfl,below_drewN (Below.refl _ _) _⟩
set_option maxRecDepth 10000 in
theorem written30 (w:World):Calls Tryz.prog 82 #[.int .i32 30] w fun e w'=>e = .returned (.string (mkS (oneL 30)))∧Below w.heap.size w w':=by
 have h0:∀ u:World,(Instr.index 9 (.string ⟨#[48,49,50,51,52,53,54,55,56,57,97,98,99,100,101,102]⟩) (.int .i32 1)).run Tryz.prog u = .ok (.int .u8 49) u:=fun u=>by kernel_rfl
 have c0:∀ u:World,(convert 5 9 (.int .u8 49)).run Tryz.prog u = .ok (.string ⟨#[49]⟩) u:=fun u=>by kernel_rfl
 have k0:IntKind.i32.wrap 1=1:=by decide
 have h1:∀ u:World,(Instr.index 9 (.string ⟨#[48,49,50,51,52,53,54,55,56,57,97,98,99,100,101,102]⟩) (.int .i32 14)).run Tryz.prog u = .ok (.int .u8 101) u:=fun u=>by kernel_rfl
 have c1:∀ u:World,(convert 5 9 (.int .u8 101)).run Tryz.prog u = .ok (.string ⟨#[101]⟩) u:=fun u=>by kernel_rfl
 have k1:IntKind.i32.wrap 14=14:=by decide
 go_enter Tryz.func82,Tryz.ntmps82
 go_wp2_with fail
 go_quiet (fail)
 go_wp2
 go_ret
 exact ⟨rfl,below_drewN (Below.refl _ _) _⟩
set_option maxRecDepth 10000 in
theorem written31 (w:World):Calls Tryz.prog 82 #[.int .i32 31] w fun e w'=>e = .returned (.string (mkS (oneL 31)))∧Below w.heap.size w w':=by
 have h0:∀ u:World,(Instr.index 9 (.string ⟨#[48,49,50,51,52,53,54,55,56,57,97,98,99,100,101,102]⟩) (.int .i32 1)).run Tryz.prog u = .ok (.int .u8 49) u:=fun u=>by kernel_rfl
 have c0:∀ u:World,(convert 5 9 (.int .u8 49)).run Tryz.prog u = .ok (.string ⟨#[49]⟩) u:=fun u=>by kernel_rfl
 have k0:IntKind.i32.wrap 1=1:=by decide
 have h1:∀ u:World,(Instr.index 9 (.string ⟨#[48,49,50,51,52,53,54,55,56,57,97,98,99,100,101,102]⟩) (.int .i32 15)).run Tryz.prog u = .ok (.int .u8 102) u:=fun u=>by kernel_rfl
 have c1:∀ u:World,(convert 5 9 (.int .u8 102)).run Tryz.prog u = .ok (.string ⟨#[102]⟩) u:=fun u=>by kernel_rfl
 have k1:IntKind.i32.wrap 15=15:=by decide
 go_enter Tryz.func82,Tryz.ntmps82
 go_wp2_with fail
 go_quiet (fail)
 go_wp2
 go_ret
 exact ⟨rfl,below_drewN (Below.refl _ _) _⟩
theorem written_calls (c:Nat) (h:plTB c=false) (w:World):Calls Tryz.prog 82 #[.int .i32 (c:Int)] w fun e w'=>e = .returned (.string (mkS (oneL c)))∧Below w.heap.size w w':=by
 unfold plTB at h
 simp only [decide_eq_false_iff_not] at h
 have key:c=0∨c=1∨c=2∨c=3∨c=4∨c=5∨c=6∨c=7∨c=8∨c=9∨c=10∨c=11∨c=12∨c=13∨c=14∨c=15∨c=16∨c=17∨c=18∨c=19∨c=20∨c=21∨c=22∨c=23∨c=24∨c=25∨c=26∨c=27∨c=28∨c=29∨c=30∨c=31∨c=34∨c=92:=by omega
 rcases key with rfl | rfl | rfl | rfl | rfl | rfl | rfl | rfl | rfl | rfl | rfl | rfl | rfl | rfl | rfl | rfl | rfl | rfl | rfl | rfl | rfl | rfl | rfl | rfl | rfl | rfl | rfl | rfl | rfl | rfl | rfl | rfl | rfl | rfl
 ·exact written0 w
 ·exact written1 w
 ·exact written2 w
 ·exact written3 w
 ·exact written4 w
 ·exact written5 w
 ·exact written6 w
 ·exact written7 w
 ·exact written8 w
 ·exact written9 w
 ·exact written10 w
 ·exact written11 w
 ·exact written12 w
 ·exact written13 w
 ·exact written14 w
 ·exact written15 w
 ·exact written16 w
 ·exact written17 w
 ·exact written18 w
 ·exact written19 w
 ·exact written20 w
 ·exact written21 w
 ·exact written22 w
 ·exact written23 w
 ·exact written24 w
 ·exact written25 w
 ·exact written26 w
 ·exact written27 w
 ·exact written28 w
 ·exact written29 w
 ·exact written30 w
 ·exact written31 w
 ·exact written34 w
 ·exact written92 w
theorem oneL_plain {c:Nat} (h:plTB c=true):oneL c=[c]:=by
 unfold plTB at h
 simp only [decide_eq_true_eq] at h
 unfold oneL
 rw [if_neg (by omega),if_neg (by omega),if_neg (by omega),if_neg (by omega),if_neg (by omega),if_neg (by omega),if_neg (by omega),if_neg (by omega)]
theorem flat_plain:∀ (k:Nat) (l:List Nat),k≤l.length→(∀ i,i<k→plTB (lb l i)=true)→l.flatMap oneL=l.take k++(l.drop k).flatMap oneL
 | 0,l,_,_=>by simp
 | k+1,[],h,_=>by simp at h
 | k+1,x :: t,h,hp=>by
  have h1:=flat_plain k t (by simpa using h) (fun i hi=>hp (i+1) (by omega))
  have h0:plTB x=true:=hp 0 (by omega)
  rw [List.flatMap_cons,oneL_plain h0,h1]
  rfl
def EsR (s r:ByteArray) (o:List Nat):Prop:=(byts s).flatMap oneL=o++(byts r).flatMap oneL∧o.length+6*r.size≤6*s.size
theorem EsR.plain {s r r':ByteArray} {o:List Nat} {k:Nat} (h:EsR s r o) (hk:IsPl r k) (hr':byts r'=(byts r).drop k):EsR s r' (o++(byts r).take k):=by
 obtain ⟨h1,h2⟩:=h
 obtain ⟨k1,k2,-⟩:=hk
 have hl:r'.size=r.size-k:=by rw [← byts_length,hr',List.length_drop,byts_length]
 refine ⟨?_,?_⟩
 ·rw [h1,flat_plain k (byts r) (by rw [byts_length];exact k1) (fun i hi=>by rw [← bAt_lb];exact k2 i hi),hr',List.append_assoc]
 ·rw [List.length_append,List.length_take,byts_length]
  omega
theorem EsR.one {s r r':ByteArray} {o:List Nat} {x:Nat} (h:EsR s r o) (hr:0<r.size) (hx:bAt r 0=x) (hr':byts r'=(byts r).drop 1):EsR s r' (o++oneL x)∧r'.size<r.size:=by
 obtain ⟨h1,h2⟩:=h
 have hl:r'.size=r.size-1:=by rw [← byts_length,hr',List.length_drop,byts_length]
 have hxl:x<256:=by rw [← hx];exact bAt_lt r 0
 have ho:=(oneL_lt hxl).2.2
 refine ⟨⟨?_,?_⟩,by omega⟩
 ·rw [bAt_lb] at hx
  have hl2:=byts_length r
  cases hb:byts r with
  | nil =>
   rw [hb] at hl2
   simp at hl2
   omega
  | cons y t =>
   rw [hb] at hx hr' h1
   have hy:y=x:=hx
   subst hy
   rw [h1,hr',List.flatMap_cons,List.append_assoc]
   rfl
 ·rw [List.length_append]
  omega
def EsIT (s:ByteArray) (m:Nat) (w1:World) (r:ByteArray) (o:List Nat) (wr:World):Prop:=EsR s r o∧BdI wr m (m+1) (bU o)∧m+1≤wr.heap.size∧Below m w1 wr
set_option maxRecDepth 10000 in
set_option maxHeartbeats 4000000 in
theorem esP_calls (s:ByteArray) (hs:s.size≤4294967296) (T:ByteArray) (E:Int) (hU:Hid (wrS s=(T,E))) (w:World) :
  Calls Tryz.prog 50 #[.string s] w fun e w'=>e = .returned (.tuple #[.string T,.int .i64 E])∧Below w.heap.size w w':=by
 have hbad:=hid (badF_calls s (by omega) w)
 obtain ⟨B,hB⟩:∃ B,Hid (badOf s=B):=⟨_,rfl⟩
 rw [hB.out] at hbad
 have hU2:=hU.out
 unfold wrS at hU2
 rw [hB.out] at hU2
 go_enter Tryz.func50,Tryz.ntmps50
 go_wp2_with fail
 refine Calls.mono hbad.out ?_
 rintro e w1 ⟨rfl,hb1⟩
 have hb1':=hid hb1
 clear hbad hb1 hU
 by_cases hB0:0≤B
 ·rw [if_pos hB0] at hU2
  simp only [Prod.mk.injEq] at hU2
  obtain ⟨rfl,rfl⟩:=hU2
  go_wp2
  exact bodyPost_ret (v:=.tuple #[.string ⟨#[]⟩,.int .i64 50]) (by simp [results,Tryz.results50,go_sem];try decide) rfl ⟨rfl,hb1'.out⟩
 ·rw [if_neg hB0] at hU2
  simp only [Prod.mk.injEq] at hU2
  obtain ⟨hT,rfl⟩:=hU2
  have hT':=hid hT
  have hB1:decide (0≤B)=false:=by simp;omega
  clear hB0 hT
  have hI0:=hid (show EsIT s w1.heap.size w1 s [] (w1.alloc (.cells #[.pointer none,.slice none 0 0] 65)) from ⟨⟨by simp,by simp⟩,BdI.fresh15 w1,by rw [World.size_alloc];exact Nat.le_refl _,(Below.refl _ _).alloc (Nat.le_refl _) _⟩)
  obtain ⟨W0,hW0⟩:∃ W,w1.alloc (.cells #[.pointer none,.slice none 0 0] 65)=W:=⟨_,rfl⟩
  obtain ⟨m,hm⟩:∃ m,w1.heap.size=m:=⟨_,rfl⟩
  rw [hW0,hm] at hI0
  have hb1s:=hb1'.out.size
  rw [hm] at hb1s
  replace hb1s:=hid hb1s
  go_wp2
  clear hW0
  replace hm:=hid hm
  go_loopw [5,6] (fun r0 _ wr=>∃ (r:ByteArray) (o:List Nat),r0 = .string r∧Hid (EsIT s m w1 r o wr)) (fun r0 _ _=>strSz r0)
  case atStart=>exact ⟨s,[],rfl,hI0⟩
  case round =>
   obtain ⟨r,o,rfl,hI⟩:=hrel
   have hrl:r.size≤4294967296:=by have:=hI.out.1.2;omega
   have hol:Hid (o.length≤25769803776):=by have:=hI.out.1.2;show _≤_;omega
   obtain ⟨k,hk⟩:∃ k,Hid (IsPl r k):=pl_ex r
   have hkl:k≤r.size:=hk.out.1
   have hki:(k:Int)≤(r.size:Int):=by omega
   have hpl:=hid (fun (u:World)=>plainP_calls r (by omega) k hk u)
   obtain ⟨rh,hrh⟩:∃ x,r.extract 0 k=x:=⟨_,rfl⟩
   obtain ⟨r1,hr1⟩:∃ x,r.extract k r.size=x:=⟨_,rfl⟩
   have hrh':=hid hrh
   have hb1r:Hid (byts r1=(byts r).drop k):=by show _=_;rw [← hr1];exact (byts_from r k).1
   have hr1s:Hid (r1.size=r.size-k):=by show _=_;rw [← hr1];exact (byts_from r k).2
   obtain ⟨o1,ho1⟩:∃ x,Hid (o++(byts r).take k=x):=⟨_,rfl⟩
   have hR1:Hid (EsR s r1 o1):=by
    rw [← ho1.out]
    exact EsR.plain hI.out.1 hk.out hb1r.out
   have hrhs:Hid (rh.size≤4294967296):=by
    show _≤_
    rw [← byts_length,← hrh'.out,byts_extract,List.length_take,List.length_drop,byts_length]
    omega
   have hws:=hid (bstr_calls m (m+1) (bU o) rh (by omega) (by rw [bU_len];have:=hol.out;have:=hrhs.out;omega) wr hI.out.2.1 hI.out.2.2.1)
   go_wp2_with fail
   refine Calls.mono (hpl.out _) ?_
   rintro e wq ⟨rfl,hq⟩
   obtain rfl:=hq.symm
   clear hq hpl
   go_wp2_with fail
   refine Calls.mono hws.out ?_
   rintro e w2 ⟨rfl,hbd2,hb2⟩
   have hI2:Hid (EsIT s m w1 r1 o1 w2):=by
    refine ⟨hR1.out,?_,Nat.le_trans hI.out.2.2.1 hb2.size,hI.out.2.2.2.trans hb2⟩
    rw [← ho1.out,bU_app,← bU_head,hrh'.out]
    exact hbd2
   clear hbd2 hb2 hws hrh hrh' hrhs
   by_cases hz:r1.size=0
   ·have hun:Hid (T=mkS o1):=by
     have h2:=hI2.out.1.1
     rw [none_from hz] at h2
     rw [show byts ⟨#[]⟩=[] from rfl,List.flatMap_nil,List.append_nil] at h2
     show _=_
     rw [← hT'.out,h2]
    obtain rfl:=hun.out
    have hst:=hid (bstring_calls m (m+1) m (bU o1) w2 hI2.out.2.1 (by omega) hI2.out.2.2.1)
    rw [bU_mk] at hst
    have hr0:=none_from hz
    subst hr0
    clear hz hun
    go_wp2_with fail
    refine Calls.mono hst.out ?_
    rintro e w3 ⟨rfl,hb3,-⟩
    have hfin:Hid (Below w.heap.size w w3):=hb1'.out.trans ((hI2.out.2.2.2.trans hb3).mono hb1s.out)
    clear hst hb3
    go_wp2
    exact bodyPost_ret (v:=.tuple #[.string (mkS o1),.int .i64 0]) (by simp [results,Tryz.results50,go_sem];try decide) rfl ⟨rfl,hfin.out⟩
   ·have hne:=some_from hz
    have hr1l:r1.size≤4294967296:=by have:=hr1s.out;omega
    have hr10:0<r1.size:=by omega
    have hr1i:(0:Int)<(r1.size:Int):=by omega
    have hr1j:(1:Int)≤(r1.size:Int):=by omega
    have hx:=bAt_at r1 0 hr10
    obtain ⟨x,hX⟩:∃ x,Hid (bAt r1 0=x):=⟨_,rfl⟩
    rw [hX.out] at hx
    have hxl:x<256:=by rw [← hX.out];exact bAt_lt r1 0
    have hnp:plTB x=false:=by
     rw [← hX.out,bAt_lb,hb1r.out,lb_drop]
     dsimp only
     rw [Nat.add_zero,← bAt_lb]
     exact hk.out.2.2 (by have:=hr1s.out;omega)
    have hwr:=hid (fun (u:World)=>written_calls x hnp u)
    obtain ⟨O,hO⟩:∃ O,Hid (mkS (oneL x)=O):=⟨_,rfl⟩
    rw [hO.out] at hwr
    have hOs:Hid (O.size≤6):=by show _≤_;rw [← hO.out,mkS_size];exact (oneL_lt hxl).2.2
    have hOd:Hid (O.data.toList=bU (oneL x)):=by
     show _=_
     rw [← hO.out]
     rfl
    have ho1l:Hid (o1.length≤25769803776):=by have:=hI2.out.1.2;show _≤_;omega
    obtain ⟨r3,hr3⟩:∃ x,r1.extract 1 r1.size=x:=⟨_,rfl⟩
    have hR3:Hid (EsR s r3 (o1++oneL x)∧r3.size<r1.size):=EsR.one hI2.out.1 hr10 hX.out (by rw [← hr3];exact (byts_from r1 1).1)
    clear hnp hz
    go_wp2_with fail
    refine Calls.mono (hwr.out _) ?_
    rintro e w3 ⟨rfl,hb3⟩
    have hsz3:Hid (m+1≤w3.heap.size):=Nat.le_trans hI2.out.2.2.1 hb3.size
    have hbd3:Hid (BdI w3 m (m+1) (bU o1)):=by
     obtain ⟨p,v,h1,h2,h3⟩:=hI2.out.2.1
     exact ⟨p,v,h1.keptAll hb3,h2,rowT_kept h3 hb3⟩
    have hbw3:Hid (Below m w1 w3):=hI2.out.2.2.2.trans (hb3.mono (by have:=hI2.out.2.2.1;omega))
    clear hb3 hwr
    have hws2:=hid (bstr_calls m (m+1) (bU o1) O (by omega) (by rw [bU_len];have:=ho1l.out;have:=hOs.out;omega) w3 hbd3.out hsz3.out)
    go_wp2_with fail
    refine Calls.mono hws2.out ?_
    rintro e w4 ⟨rfl,hbd4,hb4⟩
    have hI3:Hid (EsIT s m w1 r3 (o1++oneL x) w4):=by
     refine ⟨hR3.out.1,?_,Nat.le_trans hsz3.out hb4.size,hbw3.out.trans hb4⟩
     rw [bU_app,← hOd.out]
     exact hbd4
    clear hbd4 hb4 hws2
    go_wp2
    go_roundw
    case rel=>exact ⟨r3,_,rfl,hI3⟩
    case measure=>simp [strSz];have:=hR3.out.2;have:=hr1s.out;omega
end Go.Proofs.YtongedjlmohogaaGreatDoor

namespace Go.Proofs.YtongedjlmohogaaGreatDoor
open Go.RowKit Go.Shelf
def Ok15 (_:World):Prop:=True
theorem Ok15.below {w w':World} (_:Ok15 w) (_:Below w.heap.size w w'):Ok15 w':=trivial
theorem un_calls (s:ByteArray) (hs:s.size≤140737488351232) (T:ByteArray) (E:Int) (hU:Hid (unS s=(T,E))) (w:World) (_:Ok15 w) :
  Calls Tryz.prog 170 #[.string s] w fun e w'=>e = .returned (.tuple #[.string T,.int .i64 E])∧Below w.heap.size w w':=unP_calls s hs T E hU w
theorem es_calls (s:ByteArray) (hs:s.size≤4294967296) (T:ByteArray) (E:Int) (hU:Hid (wrS s=(T,E))) (w:World) (_:Ok15 w) :
  Calls Tryz.prog 50 #[.string s] w fun e w'=>e = .returned (.tuple #[.string T,.int .i64 E])∧Below w.heap.size w w':=esP_calls s hs T E hU w
theorem run_esc (q:Nat→Bool):∀ n,escG q false n=decide (runE q n % 2=1)
 | 0=>rfl
 | n+1=>by
  rw [escG_succ,runE_succ,run_esc q n]
  cases q n with
  | false=>simp
  | true =>
   simp only [Bool.true_and,if_true]
   by_cases h:runE q n % 2=1
   ·rw [decide_eq_true h,decide_eq_false (by omega)]
    rfl
   ·rw [decide_eq_false h,decide_eq_true (by omega)]
    rfl
set_option maxRecDepth 10000 in
set_option maxHeartbeats 1000000 in
theorem end_calls (s:ByteArray) (hs:s.size≤140737488351232) (f:Int) (hf:(Lit.int .i64 f).wf=true) (w:World) (_:Ok15 w) :
  Calls Tryz.prog 104 #[.string s,.int .i64 f] w fun e w'=>(∃ n E,e = .returned (.tuple #[.int .i64 n,.int .i64 E])∧IsEnd s f n E)∧Below w.heap.size w w':=by
 have hsi:(s.size:Int)≤140737488351232:=by omega
 by_cases h1:f<0
 ·go_enter Tryz.func104,Tryz.ntmps104
  go_wp2
  exact bodyPost_ret (v:=.tuple #[.int .i64 0,.int .i64 2]) (by simp [results,Tryz.results104,go_sem];try decide) rfl ⟨⟨_,_,rfl,.inl ⟨.inl h1,rfl,rfl⟩⟩,by exact bw⟩
 ·have n1:decide (f<0)=false:=by simp;omega
  by_cases h2:(s.size:Int)<f
  ·go_enter Tryz.func104,Tryz.ntmps104
   go_wp2
   exact bodyPost_ret (v:=.tuple #[.int .i64 0,.int .i64 2]) (by simp [results,Tryz.results104,go_sem];try decide) rfl ⟨⟨_,_,rfl,.inl ⟨.inr h2,rfl,rfl⟩⟩,by exact bw⟩
  ·obtain ⟨k,rfl⟩:∃ k:Nat,f=(k:Int):=⟨f.toNat,by omega⟩
   have hks:k≤s.size:=by omega
   have hki:(k:Int)≤(s.size:Int):=by omega
   have n2:decide ((s.size:Int)<(k:Int))=false:=by simp;omega
   have n3:decide (s.size<k)=false:=by simp;omega
   obtain ⟨t,ht⟩:∃ t,s.extract k s.size=t:=⟨_,rfl⟩
   have hts:Hid (t.size=s.size-k):=by show _=_;rw [← ht];exact (byts_from s k).2
   have htb:Hid (∀ i,i<t.size→bAt t i=bAt s (k+i)):=fun i _=>by rw [← ht];exact bAt_from s k i
   obtain ⟨G,hG⟩:∃ G,Hid (G=escG (slash t) false):=⟨_,rfl⟩
   have hti:(t.size:Int)≤140737488351232:=by have:=hts.out;omega
   have hodd:Hid (∀ (i:Nat),i≤t.size→∀ u:World,∃ fp:Nat,Calls Tryz.prog 123 #[.string t,.int .i64 (i:Int)] u fun e w'=>e = .returned (.tuple #[.int .i64 (fp:Int),.bool (G i)])∧w'=u):=fun i hi u=>by
    refine ⟨i-runE (slash t) i,?_⟩
    rw [hG.out,run_esc]
    exact odd_nat t i _ _ (by have:=hts.out;omega) hi (hid ⟨rfl,rfl⟩) u
   have hend:Hid (∀ n E,((∃ i:Nat,i<t.size∧bAt t i=34∧G i=false∧(∀ j,j<i→¬ (bAt t j=34∧G j=false))∧n=((k+i:Nat):Int)∧E=0)∨((∀ j,j<t.size→¬ (bAt t j=34∧G j=false))∧n=0∧E=150))→IsEnd s (k:Int) n E):=fun n E h=>by
    refine .inr ⟨k,rfl,hks,?_⟩
    rw [ht,← hG.out,← hts.out]
    rcases h with ⟨i,a1,a2,a3,a4,a5,a6⟩ | ⟨a1,a2,a3⟩
    ·exact .inl ⟨i,a1,by rw [← htb.out i a1];exact a2,a3,fun j hj=>by rw [← htb.out j (by omega)];exact a4 j hj,a5,a6⟩
    ·exact .inr ⟨fun j hj=>by rw [← htb.out j hj];exact a1 j hj,a2,a3⟩
   clear h1 h2 hf
   go_enter Tryz.func104,Tryz.ntmps104
   go_wp2
   clear n1 n2 n3
   go_loopw [7,8,9,23] (fun _ _ _ ii wr=>∃ i:Nat,i≤t.size∧ii = .int .i64 (i:Int)∧Hid (∀ j,j<i→¬ (bAt t j=34∧G j=false))∧wr=w) (fun _ _ _ ii _=>t.size-(intOf ii).toNat)
   case atStart=>exact ⟨0,Nat.zero_le _,rfl,hid (fun j hj=>by omega),rfl⟩
   case round =>
    obtain ⟨i,hi,rfl,hno,rfl⟩:=hrel
    by_cases hlt:i<t.size
    ·have hli:(i:Int)<(t.size:Int):=by omega
     have hx:=bAt_at t i hlt
     obtain ⟨x,hX⟩:∃ x,Hid (bAt t i=x):=⟨_,rfl⟩
     rw [hX.out] at hx
     have hxl:x<256:=by rw [← hX.out];exact bAt_lt t i
     by_cases h34:x=34
     ·subst h34
      obtain ⟨fp,hod⟩:=hodd.out i hi wr
      obtain ⟨q,hq⟩:∃ q,Hid (G i=q):=⟨_,rfl⟩
      rw [hq.out] at hod
      replace hod:=hid hod
      have hkii:(k:Int)+(i:Int)≤(s.size:Int):=by have:=hts.out;omega
      go_wp2_with fail
      refine Calls.mono hod.out ?_
      rintro e wq ⟨rfl,hwq⟩
      obtain rfl:=hwq.symm
      clear hod hwq
      cases q with
      | false =>
       go_wp2
       exact bodyPost_ret (v:=.tuple #[.int .i64 ((k:Int)+(i:Int)),.int .i64 0]) (by simp [results,Tryz.results104,go_sem];try decide) rfl ⟨⟨_,_,rfl,hend.out _ _ (.inl ⟨i,hlt,hX.out,hq.out,hno.out,by simp,rfl⟩)⟩,by exact bw⟩
      | true =>
       go_wp2
       go_roundw
       case rel=>exact ⟨i+1,by omega,by simp,hid (fun j hj=>by
        by_cases e:j=i
        ·subst e
         rw [hq.out]
         simp
        ·exact hno.out j (by omega)),trivial⟩
       case measure=>simp [intOf];omega
     ·have m34:((x:Int) == 34)=false:=by simp;omega
      have m35:((x:Int) != 34)=true:=by simp;omega
      go_wp2
      go_roundw
      case rel=>exact ⟨i+1,by omega,by simp,hid (fun j hj=>by
       by_cases e:j=i
       ·subst e
        rw [hX.out]
        intro h
        exact h34 h.1
       ·exact hno.out j (by omega)),trivial⟩
      case measure=>simp [intOf];omega
    ·obtain rfl:i=t.size:=by omega
     go_wp2
     exact bodyPost_ret (v:=.tuple #[.int .i64 0,.int .i64 150]) (by simp [results,Tryz.results104,go_sem];try decide) rfl ⟨⟨_,_,rfl,hend.out _ _ (.inr ⟨hno.out,rfl,rfl⟩)⟩,by exact bw⟩
end Go.Proofs.YtongedjlmohogaaGreatDoor
