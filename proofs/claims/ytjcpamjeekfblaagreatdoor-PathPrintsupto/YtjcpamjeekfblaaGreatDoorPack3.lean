/-
  Texts of mine that others lean on, one behind the other.
-/
import Derived.Test.YtjcpamjeekfblaaGreatDoorPack2
import Derived.Test.YtjcpamjeekfblaaGreatDoorPack1
import Derived.Lib.ConvBytes
import Derived.Laws.AppendOwn
import Derived.Lib.TrimByte
namespace Go.Proofs.YtjcpamjeekfblaaGreatDoor
open Go.RowKit
noncomputable def spanV (x:Nat) (t:List Nat):Value:=open Classical in if SpanOk x t then .tuple #[.int .i64 (sizeB x:Int),.int .i64 (loB x t:Int),.int .i64 (hiB5u x t:Int)] else .tuple #[.int .i64 0,.int .i64 1,.int .i64 0]
theorem spanV_pos {x:Nat} {t:List Nat} (h:SpanOk x t):spanV x t = .tuple #[.int .i64 (sizeB x:Int),.int .i64 (loB x t:Int),.int .i64 (hiB5u x t:Int)]:=if_pos h
theorem spanV_neg {x:Nat} {t:List Nat} (h:¬ SpanOk x t):spanV x t = .tuple #[.int .i64 0,.int .i64 1,.int .i64 0]:=if_neg h
set_option maxRecDepth 10000 in
set_option maxHeartbeats 2000000 in
theorem span_calls (x:Nat) (t:List Nat) (hx:x<256) (hlen:t.length≤3) (g cap:Nat) (w:World) (hc0:w.cell? ⟨g,0,none⟩=some (.int .u8 (x:Int))) (hct:∀ (i y:Nat),t[i]? = some y→w.cell? ⟨g,i+1,none⟩=some (.int .u8 (y:Int))∧y<256) :
  Calls Tryz.prog 121 #[.slice (some ⟨g,0,none⟩) (t.length+1) cap] w fun e w'=>e = .returned (spanV x t)∧w'=w:=by
 have hct':=hid hct
 clear hct
 obtain ⟨n,hn⟩:∃ n:Nat,n=t.length+1:=⟨_,rfl⟩
 rw [← hn]
 have hn':=hid hn
 have hn4:n≤4:=by omega
 have hn1:1≤n:=by omega
 have hni:(1:Int)≤(n:Int):=by omega
 have hnp:(0:Int)<(n:Int):=by omega
 have hxi:(x:Int)<256:=by omega
 clear hn hlen
 rcases sizeB_cases x hx with ⟨h1,hS,hL⟩ | ⟨h1,h2,hS⟩ | ⟨h1,h2,hS,hL⟩ | ⟨h1,h2,hS,hL⟩ | ⟨h1,h2,hS,hL⟩ | ⟨h1,hS⟩
 ·have i0:((x:Int)<128):=by omega
  have i1:¬ ((192:Int)≤(x:Int)):=by omega
  have i2:((x:Int)<224):=by omega
  have i3:¬ ((224:Int)≤(x:Int)):=by omega
  have i4:((x:Int)<240):=by omega
  have i5:¬ ((240:Int)≤(x:Int)):=by omega
  have i6:((x:Int)<248):=by omega
  obtain ⟨l0,hl0⟩:∃ l0:Nat,l0=leadB x:=⟨_,rfl⟩
  have hl0i:(x:Int)=(l0:Int):=by omega
  have hS':=hid hS
  have hl0':=hid hl0
  have hx':=hid hx
  clear h1 hS hL hx hl0
  go_enter Tryz.func121,Tryz.ntmps121
  go_wp2
  clear i0 i1 i2 i3 i4 i5 i6
  go_loopw [7,8] (fun lo ii wr=>∃ (i L:Nat),1≤i∧i≤n∧i≤1∧Hid (L=accB l0 (t.take (i-1)))∧Hid (okC (t.take (i-1)))∧L<33554432∧lo = .int .i64 (L:Int)∧ii = .int .i64 (i:Int)∧w=wr) (fun _ ii _=>n-(intOf ii).toNat)
  case atStart =>
   refine ⟨1,l0,by omega,by omega,by omega,hid rfl,hid (fun y hy=>by cases hy),?_,rfl,rfl,rfl⟩
   have:=leadB_le hx'.out
   have:=hl0'.out
   omega
  case round =>
   obtain ⟨i,L,hi1,hin,hik,hL,hok,hLs,rfl,rfl,hwr⟩:=hrel
   subst hwr
   by_cases hlt:i<n
   ·have hli:(i:Int)<(n:Int):=by omega
    obtain ⟨y,hy⟩:∃ y,t[i-1]? = some y:=⟨_,List.getElem?_eq_getElem (by have:=hn'.out;omega)⟩
    have hcy:=hct'.out _ _ hy
    rw [show i-1+1=i by omega] at hcy
    obtain ⟨hcy,hy256⟩:=hcy
    have hy':=hid hy
    have ht1:=hid (show t.take i=t.take (i-1)++[y] by
     have:=List.take_add_one (l:=t) (i:=i-1)
     rw [hy,show i-1+1=i by omega] at this
     exact this)
    clear hy
    by_cases hki:i<1
    ·omega
    ·have hkii:¬ (i:Int)<1:=by omega
     have hge:(1:Int)≤(i:Int):=by omega
     have hno:=hid (spanV_neg (x:=x) (t:=t) (fun h=>by have:=h.2;have:=hn'.out;have:=hS'.out;omega))
     go_wp2
     refine bodyPost_ret (v:=.tuple #[.int .i64 0,.int .i64 1,.int .i64 0]) (by simp [results,Tryz.results121,go_sem];try decide) rfl ⟨?_,rfl⟩
     rw [hno.out]
   ·obtain rfl:i=n:=by omega
    have hall:t.take (i-1)=t:=List.take_of_length_le (by have:=hn'.out;omega)
    rw [hall] at hL hok
    have hyes:=hid (spanV_pos (x:=x) (t:=t) ⟨hok.out,by have:=hn'.out;have:=hS'.out;omega⟩)
    have hLs':=hid hLs
    have hn2:=hid hik
    clear hall hlt hLs
    go_wp2
    go_loopw [7,10,11] (fun lo hi jj wr=>∃ (j A B:Nat),i≤j∧j≤1∧Hid (A=L*64 ^ (j-i))∧Hid (B+1=(L+1)*64 ^ (j-i))∧A<33554432∧B<33554432∧lo = .int .i64 (A:Int)∧hi = .int .i64 (B:Int)∧jj = .int .i64 (j:Int)∧w=wr) (fun _ _ jj _=>1-(intOf jj).toNat)
    case atStart=>exact ⟨i,L,L,Nat.le_refl _,hn2.out,hid (by rw [Nat.sub_self,Nat.pow_zero,Nat.mul_one]),hid (by rw [Nat.sub_self,Nat.pow_zero,Nat.mul_one]),hLs'.out,hLs'.out,rfl,rfl,rfl,rfl⟩
    case round =>
     obtain ⟨j,A,B,hij,hjk,hA,hB,hAs,hBs,rfl,rfl,rfl,hwr⟩:=hrel
     subst hwr
     by_cases hlt:j<1
     ·have hli:(j:Int)<1:=by omega
      have hA1:=hid (show A*64=L*64 ^ (j+1-i) by rw [hA.out,show j+1-i=(j-i)+1 by omega,Nat.pow_succ,Nat.mul_assoc])
      have hB1:=hid (show B*64+63+1=(L+1)*64 ^ (j+1-i) by rw [show B*64+63+1=(B+1)*64 by omega,hB.out,show j+1-i=(j-i)+1 by omega,Nat.pow_succ,Nat.mul_assoc])
      have hBb:B*64+63<33554432:=by
       have h1:=accB_lt t (leadB x) hok.out
       rw [← hl0'.out,← hL.out,show t.length=i-1 by have:=hn'.out;omega] at h1
       have h2:=leadB_le hx'.out
       rw [← hl0'.out] at h2
       have h3:(L+1)*64 ^ (j+1-i)≤((l0+1)*64 ^ (i-1))*64 ^ (j+1-i):=Nat.mul_le_mul_right _ h1
       rw [Nat.mul_assoc,← Nat.pow_add,show i-1+(j+1-i)=j by omega] at h3
       have h4:64 ^ j≤64 ^ 3:=Nat.pow_le_pow_right (by decide) (by omega)
       have h5:(l0+1)*64 ^ j≤128*64 ^ 3:=Nat.mul_le_mul (by omega) h4
       have h6:128*64 ^ 3=33554432:=by decide
       have:=hB1.out
       omega
      have hAB:A≤B:=by
       have h1:=hA.out
       have h2:=hB.out
       have h3:1≤64 ^ (j-i):=Nat.pos_of_ne_zero (by simp)
       rw [Nat.add_mul,Nat.one_mul] at h2
       omega
      have hAi:(A:Int)<33554432:=by omega
      have hBi:(B:Int)<33554432:=by omega
      have hA64:A*64<33554432:=by omega
      clear hlt hAB
      go_wp2
      go_roundw
      case rel=>exact ⟨j+1,A*64,B*64+63,by omega,by omega,hA1,hB1,hA64,hBb,by simp,by simp,by simp,by first | trivial | rfl⟩
      case measure=>simp [intOf];omega
     ·obtain rfl:j=1:=by omega
      go_wp2
      refine bodyPost_ret (v:=.tuple #[.int .i64 1,.int .i64 (A:Int),.int .i64 (B:Int)]) (by simp [results,Tryz.results121,go_sem];try decide) rfl ⟨?_,rfl⟩
      have e1:loB x t=A:=by unfold loB;rw [hS'.out,← hl0'.out,← hL.out,hA.out,hn'.out]
      have e2:hiB5u x t=B:=by unfold hiB5u;rw [hS'.out,← hl0'.out,← hL.out,← hn'.out,← hB.out];omega
      rw [hyes.out,e1,e2,hS'.out]
      rfl
 ·have i0:¬ ((x:Int)<128):=by omega
  have i1:¬ ((192:Int)≤(x:Int)):=by omega
  have i2:((x:Int)<224):=by omega
  have i3:¬ ((224:Int)≤(x:Int)):=by omega
  have i4:((x:Int)<240):=by omega
  have i5:¬ ((240:Int)≤(x:Int)):=by omega
  have i6:((x:Int)<248):=by omega
  have hno:=hid (spanV_neg (x:=x) (t:=t) (fun h=>by have:=h.2;omega))
  clear h1 h2 hS hx
  go_enter Tryz.func121,Tryz.ntmps121
  go_wp2
  refine bodyPost_ret (v:=.tuple #[.int .i64 0,.int .i64 1,.int .i64 0]) (by simp [results,Tryz.results121,go_sem];try decide) rfl ⟨?_,rfl⟩
  rw [hno.out]
 ·have i0:¬ ((x:Int)<128):=by omega
  have i1:((192:Int)≤(x:Int)):=by omega
  have i2:((x:Int)<224):=by omega
  have i3:¬ ((224:Int)≤(x:Int)):=by omega
  have i4:((x:Int)<240):=by omega
  have i5:¬ ((240:Int)≤(x:Int)):=by omega
  have i6:((x:Int)<248):=by omega
  obtain ⟨l0,hl0⟩:∃ l0:Nat,l0=leadB x:=⟨_,rfl⟩
  have hl0i:(x:Int)-192=(l0:Int):=by omega
  have hS':=hid hS
  have hl0':=hid hl0
  have hx':=hid hx
  clear h1 h2 hS hL hx hl0
  go_enter Tryz.func121,Tryz.ntmps121
  go_wp2
  clear i0 i1 i2 i3 i4 i5 i6
  go_loopw [7,8] (fun lo ii wr=>∃ (i L:Nat),1≤i∧i≤n∧i≤2∧Hid (L=accB l0 (t.take (i-1)))∧Hid (okC (t.take (i-1)))∧L<33554432∧lo = .int .i64 (L:Int)∧ii = .int .i64 (i:Int)∧w=wr) (fun _ ii _=>n-(intOf ii).toNat)
  case atStart =>
   refine ⟨1,l0,by omega,by omega,by omega,hid rfl,hid (fun y hy=>by cases hy),?_,rfl,rfl,rfl⟩
   have:=leadB_le hx'.out
   have:=hl0'.out
   omega
  case round =>
   obtain ⟨i,L,hi1,hin,hik,hL,hok,hLs,rfl,rfl,hwr⟩:=hrel
   subst hwr
   by_cases hlt:i<n
   ·have hli:(i:Int)<(n:Int):=by omega
    obtain ⟨y,hy⟩:∃ y,t[i-1]? = some y:=⟨_,List.getElem?_eq_getElem (by have:=hn'.out;omega)⟩
    have hcy:=hct'.out _ _ hy
    rw [show i-1+1=i by omega] at hcy
    obtain ⟨hcy,hy256⟩:=hcy
    have hy':=hid hy
    have ht1:=hid (show t.take i=t.take (i-1)++[y] by
     have:=List.take_add_one (l:=t) (i:=i-1)
     rw [hy,show i-1+1=i by omega] at this
     exact this)
    clear hy
    by_cases hki:i<2
    ·have hkii:(i:Int)<2:=by omega
     by_cases hy1:y<128
     ·have hno:=hid (spanV_neg (x:=x) (t:=t) (fun h=>by have:=h.1 y (List.mem_of_getElem? hy'.out);omega))
      have hyi:(y:Int)<128:=by omega
      go_wp2
      refine bodyPost_ret (v:=.tuple #[.int .i64 0,.int .i64 1,.int .i64 0]) (by simp [results,Tryz.results121,go_sem];try decide) rfl ⟨?_,rfl⟩
      rw [hno.out]
     ·have hyi:¬ (y:Int)<128:=by omega
      by_cases hy2:192≤y
      ·have hno:=hid (spanV_neg (x:=x) (t:=t) (fun h=>by have:=h.1 y (List.mem_of_getElem? hy'.out);omega))
       have hyj:(192:Int)≤(y:Int):=by omega
       go_wp2
       refine bodyPost_ret (v:=.tuple #[.int .i64 0,.int .i64 1,.int .i64 0]) (by simp [results,Tryz.results121,go_sem];try decide) rfl ⟨?_,rfl⟩
       rw [hno.out]
      ·have hyj:¬ (192:Int)≤(y:Int):=by omega
       obtain ⟨M,hM⟩:∃ M:Nat,M=L*64+(y-128):=⟨_,rfl⟩
       have hMi:=hid (show (L:Int)*64+(y:Int)-128=(M:Int) by omega)
       have hMa:=hid (show M=accB l0 (t.take (i+1-1)) by rw [hM,hL.out,show i+1-1=i by omega,ht1.out,accB_snoc])
       have hMo:=hid (show okC (t.take (i+1-1)) by rw [show i+1-1=i by omega,ht1.out];exact okC_snoc hok.out (by omega) (by omega))
       have hMs:M<33554432:=by
        rw [hMa.out,hl0'.out]
        refine accB_small hx'.out hMo.out ?_
        rw [List.length_take];omega
       have hMs2:=hid hMs
       have hLs2:=hid hLs
       clear hM hlt hki hy1 hy2 hMs hLs
       go_wp2
       go_roundw
       case rel=>exact ⟨i+1,M,by omega,by omega,by omega,hMa,hMo,hMs2.out,by congr 1;have:=hMi.out;have:=hLs2.out;unfold wrap64;omega,by simp,by first | trivial | rfl⟩
       case measure=>simp [intOf];omega
    ·have hkii:¬ (i:Int)<2:=by omega
     have hge:(2:Int)≤(i:Int):=by omega
     have hno:=hid (spanV_neg (x:=x) (t:=t) (fun h=>by have:=h.2;have:=hn'.out;have:=hS'.out;omega))
     go_wp2
     refine bodyPost_ret (v:=.tuple #[.int .i64 0,.int .i64 1,.int .i64 0]) (by simp [results,Tryz.results121,go_sem];try decide) rfl ⟨?_,rfl⟩
     rw [hno.out]
   ·obtain rfl:i=n:=by omega
    have hall:t.take (i-1)=t:=List.take_of_length_le (by have:=hn'.out;omega)
    rw [hall] at hL hok
    have hyes:=hid (spanV_pos (x:=x) (t:=t) ⟨hok.out,by have:=hn'.out;have:=hS'.out;omega⟩)
    have hLs':=hid hLs
    have hn2:=hid hik
    clear hall hlt hLs
    go_wp2
    go_loopw [7,10,11] (fun lo hi jj wr=>∃ (j A B:Nat),i≤j∧j≤2∧Hid (A=L*64 ^ (j-i))∧Hid (B+1=(L+1)*64 ^ (j-i))∧A<33554432∧B<33554432∧lo = .int .i64 (A:Int)∧hi = .int .i64 (B:Int)∧jj = .int .i64 (j:Int)∧w=wr) (fun _ _ jj _=>2-(intOf jj).toNat)
    case atStart=>exact ⟨i,L,L,Nat.le_refl _,hn2.out,hid (by rw [Nat.sub_self,Nat.pow_zero,Nat.mul_one]),hid (by rw [Nat.sub_self,Nat.pow_zero,Nat.mul_one]),hLs'.out,hLs'.out,rfl,rfl,rfl,rfl⟩
    case round =>
     obtain ⟨j,A,B,hij,hjk,hA,hB,hAs,hBs,rfl,rfl,rfl,hwr⟩:=hrel
     subst hwr
     by_cases hlt:j<2
     ·have hli:(j:Int)<2:=by omega
      have hA1:=hid (show A*64=L*64 ^ (j+1-i) by rw [hA.out,show j+1-i=(j-i)+1 by omega,Nat.pow_succ,Nat.mul_assoc])
      have hB1:=hid (show B*64+63+1=(L+1)*64 ^ (j+1-i) by rw [show B*64+63+1=(B+1)*64 by omega,hB.out,show j+1-i=(j-i)+1 by omega,Nat.pow_succ,Nat.mul_assoc])
      have hBb:B*64+63<33554432:=by
       have h1:=accB_lt t (leadB x) hok.out
       rw [← hl0'.out,← hL.out,show t.length=i-1 by have:=hn'.out;omega] at h1
       have h2:=leadB_le hx'.out
       rw [← hl0'.out] at h2
       have h3:(L+1)*64 ^ (j+1-i)≤((l0+1)*64 ^ (i-1))*64 ^ (j+1-i):=Nat.mul_le_mul_right _ h1
       rw [Nat.mul_assoc,← Nat.pow_add,show i-1+(j+1-i)=j by omega] at h3
       have h4:64 ^ j≤64 ^ 3:=Nat.pow_le_pow_right (by decide) (by omega)
       have h5:(l0+1)*64 ^ j≤128*64 ^ 3:=Nat.mul_le_mul (by omega) h4
       have h6:128*64 ^ 3=33554432:=by decide
       have:=hB1.out
       omega
      have hAB:A≤B:=by
       have h1:=hA.out
       have h2:=hB.out
       have h3:1≤64 ^ (j-i):=Nat.pos_of_ne_zero (by simp)
       rw [Nat.add_mul,Nat.one_mul] at h2
       omega
      have hAi:(A:Int)<33554432:=by omega
      have hBi:(B:Int)<33554432:=by omega
      have hA64:A*64<33554432:=by omega
      clear hlt hAB
      go_wp2
      go_roundw
      case rel=>exact ⟨j+1,A*64,B*64+63,by omega,by omega,hA1,hB1,hA64,hBb,by simp,by simp,by simp,by first | trivial | rfl⟩
      case measure=>simp [intOf];omega
     ·obtain rfl:j=2:=by omega
      go_wp2
      refine bodyPost_ret (v:=.tuple #[.int .i64 2,.int .i64 (A:Int),.int .i64 (B:Int)]) (by simp [results,Tryz.results121,go_sem];try decide) rfl ⟨?_,rfl⟩
      have e1:loB x t=A:=by unfold loB;rw [hS'.out,← hl0'.out,← hL.out,hA.out,hn'.out]
      have e2:hiB5u x t=B:=by unfold hiB5u;rw [hS'.out,← hl0'.out,← hL.out,← hn'.out,← hB.out];omega
      rw [hyes.out,e1,e2,hS'.out]
      rfl
 ·have i0:¬ ((x:Int)<128):=by omega
  have i1:((192:Int)≤(x:Int)):=by omega
  have i2:¬ ((x:Int)<224):=by omega
  have i3:((224:Int)≤(x:Int)):=by omega
  have i4:((x:Int)<240):=by omega
  have i5:¬ ((240:Int)≤(x:Int)):=by omega
  have i6:((x:Int)<248):=by omega
  obtain ⟨l0,hl0⟩:∃ l0:Nat,l0=leadB x:=⟨_,rfl⟩
  have hl0i:(x:Int)-224=(l0:Int):=by omega
  have hS':=hid hS
  have hl0':=hid hl0
  have hx':=hid hx
  clear h1 h2 hS hL hx hl0
  go_enter Tryz.func121,Tryz.ntmps121
  go_wp2
  clear i0 i1 i2 i3 i4 i5 i6
  go_loopw [7,8] (fun lo ii wr=>∃ (i L:Nat),1≤i∧i≤n∧i≤3∧Hid (L=accB l0 (t.take (i-1)))∧Hid (okC (t.take (i-1)))∧L<33554432∧lo = .int .i64 (L:Int)∧ii = .int .i64 (i:Int)∧w=wr) (fun _ ii _=>n-(intOf ii).toNat)
  case atStart =>
   refine ⟨1,l0,by omega,by omega,by omega,hid rfl,hid (fun y hy=>by cases hy),?_,rfl,rfl,rfl⟩
   have:=leadB_le hx'.out
   have:=hl0'.out
   omega
  case round =>
   obtain ⟨i,L,hi1,hin,hik,hL,hok,hLs,rfl,rfl,hwr⟩:=hrel
   subst hwr
   by_cases hlt:i<n
   ·have hli:(i:Int)<(n:Int):=by omega
    obtain ⟨y,hy⟩:∃ y,t[i-1]? = some y:=⟨_,List.getElem?_eq_getElem (by have:=hn'.out;omega)⟩
    have hcy:=hct'.out _ _ hy
    rw [show i-1+1=i by omega] at hcy
    obtain ⟨hcy,hy256⟩:=hcy
    have hy':=hid hy
    have ht1:=hid (show t.take i=t.take (i-1)++[y] by
     have:=List.take_add_one (l:=t) (i:=i-1)
     rw [hy,show i-1+1=i by omega] at this
     exact this)
    clear hy
    by_cases hki:i<3
    ·have hkii:(i:Int)<3:=by omega
     by_cases hy1:y<128
     ·have hno:=hid (spanV_neg (x:=x) (t:=t) (fun h=>by have:=h.1 y (List.mem_of_getElem? hy'.out);omega))
      have hyi:(y:Int)<128:=by omega
      go_wp2
      refine bodyPost_ret (v:=.tuple #[.int .i64 0,.int .i64 1,.int .i64 0]) (by simp [results,Tryz.results121,go_sem];try decide) rfl ⟨?_,rfl⟩
      rw [hno.out]
     ·have hyi:¬ (y:Int)<128:=by omega
      by_cases hy2:192≤y
      ·have hno:=hid (spanV_neg (x:=x) (t:=t) (fun h=>by have:=h.1 y (List.mem_of_getElem? hy'.out);omega))
       have hyj:(192:Int)≤(y:Int):=by omega
       go_wp2
       refine bodyPost_ret (v:=.tuple #[.int .i64 0,.int .i64 1,.int .i64 0]) (by simp [results,Tryz.results121,go_sem];try decide) rfl ⟨?_,rfl⟩
       rw [hno.out]
      ·have hyj:¬ (192:Int)≤(y:Int):=by omega
       obtain ⟨M,hM⟩:∃ M:Nat,M=L*64+(y-128):=⟨_,rfl⟩
       have hMi:=hid (show (L:Int)*64+(y:Int)-128=(M:Int) by omega)
       have hMa:=hid (show M=accB l0 (t.take (i+1-1)) by rw [hM,hL.out,show i+1-1=i by omega,ht1.out,accB_snoc])
       have hMo:=hid (show okC (t.take (i+1-1)) by rw [show i+1-1=i by omega,ht1.out];exact okC_snoc hok.out (by omega) (by omega))
       have hMs:M<33554432:=by
        rw [hMa.out,hl0'.out]
        refine accB_small hx'.out hMo.out ?_
        rw [List.length_take];omega
       have hMs2:=hid hMs
       have hLs2:=hid hLs
       clear hM hlt hki hy1 hy2 hMs hLs
       go_wp2
       go_roundw
       case rel=>exact ⟨i+1,M,by omega,by omega,by omega,hMa,hMo,hMs2.out,by congr 1;have:=hMi.out;have:=hLs2.out;unfold wrap64;omega,by simp,by first | trivial | rfl⟩
       case measure=>simp [intOf];omega
    ·have hkii:¬ (i:Int)<3:=by omega
     have hge:(3:Int)≤(i:Int):=by omega
     have hno:=hid (spanV_neg (x:=x) (t:=t) (fun h=>by have:=h.2;have:=hn'.out;have:=hS'.out;omega))
     go_wp2
     refine bodyPost_ret (v:=.tuple #[.int .i64 0,.int .i64 1,.int .i64 0]) (by simp [results,Tryz.results121,go_sem];try decide) rfl ⟨?_,rfl⟩
     rw [hno.out]
   ·obtain rfl:i=n:=by omega
    have hall:t.take (i-1)=t:=List.take_of_length_le (by have:=hn'.out;omega)
    rw [hall] at hL hok
    have hyes:=hid (spanV_pos (x:=x) (t:=t) ⟨hok.out,by have:=hn'.out;have:=hS'.out;omega⟩)
    have hLs':=hid hLs
    have hn2:=hid hik
    clear hall hlt hLs
    go_wp2
    go_loopw [7,10,11] (fun lo hi jj wr=>∃ (j A B:Nat),i≤j∧j≤3∧Hid (A=L*64 ^ (j-i))∧Hid (B+1=(L+1)*64 ^ (j-i))∧A<33554432∧B<33554432∧lo = .int .i64 (A:Int)∧hi = .int .i64 (B:Int)∧jj = .int .i64 (j:Int)∧w=wr) (fun _ _ jj _=>3-(intOf jj).toNat)
    case atStart=>exact ⟨i,L,L,Nat.le_refl _,hn2.out,hid (by rw [Nat.sub_self,Nat.pow_zero,Nat.mul_one]),hid (by rw [Nat.sub_self,Nat.pow_zero,Nat.mul_one]),hLs'.out,hLs'.out,rfl,rfl,rfl,rfl⟩
    case round =>
     obtain ⟨j,A,B,hij,hjk,hA,hB,hAs,hBs,rfl,rfl,rfl,hwr⟩:=hrel
     subst hwr
     by_cases hlt:j<3
     ·have hli:(j:Int)<3:=by omega
      have hA1:=hid (show A*64=L*64 ^ (j+1-i) by rw [hA.out,show j+1-i=(j-i)+1 by omega,Nat.pow_succ,Nat.mul_assoc])
      have hB1:=hid (show B*64+63+1=(L+1)*64 ^ (j+1-i) by rw [show B*64+63+1=(B+1)*64 by omega,hB.out,show j+1-i=(j-i)+1 by omega,Nat.pow_succ,Nat.mul_assoc])
      have hBb:B*64+63<33554432:=by
       have h1:=accB_lt t (leadB x) hok.out
       rw [← hl0'.out,← hL.out,show t.length=i-1 by have:=hn'.out;omega] at h1
       have h2:=leadB_le hx'.out
       rw [← hl0'.out] at h2
       have h3:(L+1)*64 ^ (j+1-i)≤((l0+1)*64 ^ (i-1))*64 ^ (j+1-i):=Nat.mul_le_mul_right _ h1
       rw [Nat.mul_assoc,← Nat.pow_add,show i-1+(j+1-i)=j by omega] at h3
       have h4:64 ^ j≤64 ^ 3:=Nat.pow_le_pow_right (by decide) (by omega)
       have h5:(l0+1)*64 ^ j≤128*64 ^ 3:=Nat.mul_le_mul (by omega) h4
       have h6:128*64 ^ 3=33554432:=by decide
       have:=hB1.out
       omega
      have hAB:A≤B:=by
       have h1:=hA.out
       have h2:=hB.out
       have h3:1≤64 ^ (j-i):=Nat.pos_of_ne_zero (by simp)
       rw [Nat.add_mul,Nat.one_mul] at h2
       omega
      have hAi:(A:Int)<33554432:=by omega
      have hBi:(B:Int)<33554432:=by omega
      have hA64:A*64<33554432:=by omega
      clear hlt hAB
      go_wp2
      go_roundw
      case rel=>exact ⟨j+1,A*64,B*64+63,by omega,by omega,hA1,hB1,hA64,hBb,by simp,by simp,by simp,by first | trivial | rfl⟩
      case measure=>simp [intOf];omega
     ·obtain rfl:j=3:=by omega
      go_wp2
      refine bodyPost_ret (v:=.tuple #[.int .i64 3,.int .i64 (A:Int),.int .i64 (B:Int)]) (by simp [results,Tryz.results121,go_sem];try decide) rfl ⟨?_,rfl⟩
      have e1:loB x t=A:=by unfold loB;rw [hS'.out,← hl0'.out,← hL.out,hA.out,hn'.out]
      have e2:hiB5u x t=B:=by unfold hiB5u;rw [hS'.out,← hl0'.out,← hL.out,← hn'.out,← hB.out];omega
      rw [hyes.out,e1,e2,hS'.out]
      rfl
 ·have i0:¬ ((x:Int)<128):=by omega
  have i1:((192:Int)≤(x:Int)):=by omega
  have i2:¬ ((x:Int)<224):=by omega
  have i3:((224:Int)≤(x:Int)):=by omega
  have i4:¬ ((x:Int)<240):=by omega
  have i5:((240:Int)≤(x:Int)):=by omega
  have i6:((x:Int)<248):=by omega
  obtain ⟨l0,hl0⟩:∃ l0:Nat,l0=leadB x:=⟨_,rfl⟩
  have hl0i:(x:Int)-240=(l0:Int):=by omega
  have hS':=hid hS
  have hl0':=hid hl0
  have hx':=hid hx
  clear h1 h2 hS hL hx hl0
  go_enter Tryz.func121,Tryz.ntmps121
  go_wp2
  clear i0 i1 i2 i3 i4 i5 i6
  go_loopw [7,8] (fun lo ii wr=>∃ (i L:Nat),1≤i∧i≤n∧i≤4∧Hid (L=accB l0 (t.take (i-1)))∧Hid (okC (t.take (i-1)))∧L<33554432∧lo = .int .i64 (L:Int)∧ii = .int .i64 (i:Int)∧w=wr) (fun _ ii _=>n-(intOf ii).toNat)
  case atStart =>
   refine ⟨1,l0,by omega,by omega,by omega,hid rfl,hid (fun y hy=>by cases hy),?_,rfl,rfl,rfl⟩
   have:=leadB_le hx'.out
   have:=hl0'.out
   omega
  case round =>
   obtain ⟨i,L,hi1,hin,hik,hL,hok,hLs,rfl,rfl,hwr⟩:=hrel
   subst hwr
   by_cases hlt:i<n
   ·have hli:(i:Int)<(n:Int):=by omega
    obtain ⟨y,hy⟩:∃ y,t[i-1]? = some y:=⟨_,List.getElem?_eq_getElem (by have:=hn'.out;omega)⟩
    have hcy:=hct'.out _ _ hy
    rw [show i-1+1=i by omega] at hcy
    obtain ⟨hcy,hy256⟩:=hcy
    have hy':=hid hy
    have ht1:=hid (show t.take i=t.take (i-1)++[y] by
     have:=List.take_add_one (l:=t) (i:=i-1)
     rw [hy,show i-1+1=i by omega] at this
     exact this)
    clear hy
    by_cases hki:i<4
    ·have hkii:(i:Int)<4:=by omega
     by_cases hy1:y<128
     ·have hno:=hid (spanV_neg (x:=x) (t:=t) (fun h=>by have:=h.1 y (List.mem_of_getElem? hy'.out);omega))
      have hyi:(y:Int)<128:=by omega
      go_wp2
      refine bodyPost_ret (v:=.tuple #[.int .i64 0,.int .i64 1,.int .i64 0]) (by simp [results,Tryz.results121,go_sem];try decide) rfl ⟨?_,rfl⟩
      rw [hno.out]
     ·have hyi:¬ (y:Int)<128:=by omega
      by_cases hy2:192≤y
      ·have hno:=hid (spanV_neg (x:=x) (t:=t) (fun h=>by have:=h.1 y (List.mem_of_getElem? hy'.out);omega))
       have hyj:(192:Int)≤(y:Int):=by omega
       go_wp2
       refine bodyPost_ret (v:=.tuple #[.int .i64 0,.int .i64 1,.int .i64 0]) (by simp [results,Tryz.results121,go_sem];try decide) rfl ⟨?_,rfl⟩
       rw [hno.out]
      ·have hyj:¬ (192:Int)≤(y:Int):=by omega
       obtain ⟨M,hM⟩:∃ M:Nat,M=L*64+(y-128):=⟨_,rfl⟩
       have hMi:=hid (show (L:Int)*64+(y:Int)-128=(M:Int) by omega)
       have hMa:=hid (show M=accB l0 (t.take (i+1-1)) by rw [hM,hL.out,show i+1-1=i by omega,ht1.out,accB_snoc])
       have hMo:=hid (show okC (t.take (i+1-1)) by rw [show i+1-1=i by omega,ht1.out];exact okC_snoc hok.out (by omega) (by omega))
       have hMs:M<33554432:=by
        rw [hMa.out,hl0'.out]
        refine accB_small hx'.out hMo.out ?_
        rw [List.length_take];omega
       have hMs2:=hid hMs
       have hLs2:=hid hLs
       clear hM hlt hki hy1 hy2 hMs hLs
       go_wp2
       go_roundw
       case rel=>exact ⟨i+1,M,by omega,by omega,by omega,hMa,hMo,hMs2.out,by congr 1;have:=hMi.out;have:=hLs2.out;unfold wrap64;omega,by simp,by first | trivial | rfl⟩
       case measure=>simp [intOf];omega
    ·have hkii:¬ (i:Int)<4:=by omega
     have hge:(4:Int)≤(i:Int):=by omega
     have hno:=hid (spanV_neg (x:=x) (t:=t) (fun h=>by have:=h.2;have:=hn'.out;have:=hS'.out;omega))
     go_wp2
     refine bodyPost_ret (v:=.tuple #[.int .i64 0,.int .i64 1,.int .i64 0]) (by simp [results,Tryz.results121,go_sem];try decide) rfl ⟨?_,rfl⟩
     rw [hno.out]
   ·obtain rfl:i=n:=by omega
    have hall:t.take (i-1)=t:=List.take_of_length_le (by have:=hn'.out;omega)
    rw [hall] at hL hok
    have hyes:=hid (spanV_pos (x:=x) (t:=t) ⟨hok.out,by have:=hn'.out;have:=hS'.out;omega⟩)
    have hLs':=hid hLs
    have hn2:=hid hik
    clear hall hlt hLs
    go_wp2
    go_loopw [7,10,11] (fun lo hi jj wr=>∃ (j A B:Nat),i≤j∧j≤4∧Hid (A=L*64 ^ (j-i))∧Hid (B+1=(L+1)*64 ^ (j-i))∧A<33554432∧B<33554432∧lo = .int .i64 (A:Int)∧hi = .int .i64 (B:Int)∧jj = .int .i64 (j:Int)∧w=wr) (fun _ _ jj _=>4-(intOf jj).toNat)
    case atStart=>exact ⟨i,L,L,Nat.le_refl _,hn2.out,hid (by rw [Nat.sub_self,Nat.pow_zero,Nat.mul_one]),hid (by rw [Nat.sub_self,Nat.pow_zero,Nat.mul_one]),hLs'.out,hLs'.out,rfl,rfl,rfl,rfl⟩
    case round =>
     obtain ⟨j,A,B,hij,hjk,hA,hB,hAs,hBs,rfl,rfl,rfl,hwr⟩:=hrel
     subst hwr
     by_cases hlt:j<4
     ·have hli:(j:Int)<4:=by omega
      have hA1:=hid (show A*64=L*64 ^ (j+1-i) by rw [hA.out,show j+1-i=(j-i)+1 by omega,Nat.pow_succ,Nat.mul_assoc])
      have hB1:=hid (show B*64+63+1=(L+1)*64 ^ (j+1-i) by rw [show B*64+63+1=(B+1)*64 by omega,hB.out,show j+1-i=(j-i)+1 by omega,Nat.pow_succ,Nat.mul_assoc])
      have hBb:B*64+63<33554432:=by
       have h1:=accB_lt t (leadB x) hok.out
       rw [← hl0'.out,← hL.out,show t.length=i-1 by have:=hn'.out;omega] at h1
       have h2:=leadB_le hx'.out
       rw [← hl0'.out] at h2
       have h3:(L+1)*64 ^ (j+1-i)≤((l0+1)*64 ^ (i-1))*64 ^ (j+1-i):=Nat.mul_le_mul_right _ h1
       rw [Nat.mul_assoc,← Nat.pow_add,show i-1+(j+1-i)=j by omega] at h3
       have h4:64 ^ j≤64 ^ 3:=Nat.pow_le_pow_right (by decide) (by omega)
       have h5:(l0+1)*64 ^ j≤128*64 ^ 3:=Nat.mul_le_mul (by omega) h4
       have h6:128*64 ^ 3=33554432:=by decide
       have:=hB1.out
       omega
      have hAB:A≤B:=by
       have h1:=hA.out
       have h2:=hB.out
       have h3:1≤64 ^ (j-i):=Nat.pos_of_ne_zero (by simp)
       rw [Nat.add_mul,Nat.one_mul] at h2
       omega
      have hAi:(A:Int)<33554432:=by omega
      have hBi:(B:Int)<33554432:=by omega
      have hA64:A*64<33554432:=by omega
      clear hlt hAB
      go_wp2
      go_roundw
      case rel=>exact ⟨j+1,A*64,B*64+63,by omega,by omega,hA1,hB1,hA64,hBb,by simp,by simp,by simp,by first | trivial | rfl⟩
      case measure=>simp [intOf];omega
     ·obtain rfl:j=4:=by omega
      go_wp2
      refine bodyPost_ret (v:=.tuple #[.int .i64 4,.int .i64 (A:Int),.int .i64 (B:Int)]) (by simp [results,Tryz.results121,go_sem];try decide) rfl ⟨?_,rfl⟩
      have e1:loB x t=A:=by unfold loB;rw [hS'.out,← hl0'.out,← hL.out,hA.out,hn'.out]
      have e2:hiB5u x t=B:=by unfold hiB5u;rw [hS'.out,← hl0'.out,← hL.out,← hn'.out,← hB.out];omega
      rw [hyes.out,e1,e2,hS'.out]
      rfl
 ·have i0:¬ ((x:Int)<128):=by omega
  have i1:((192:Int)≤(x:Int)):=by omega
  have i2:¬ ((x:Int)<224):=by omega
  have i3:((224:Int)≤(x:Int)):=by omega
  have i4:¬ ((x:Int)<240):=by omega
  have i5:((240:Int)≤(x:Int)):=by omega
  have i6:¬ ((x:Int)<248):=by omega
  have hno:=hid (spanV_neg (x:=x) (t:=t) (fun h=>by have:=h.2;omega))
  clear h1 hS hx
  go_enter Tryz.func121,Tryz.ntmps121
  go_wp2
  refine bodyPost_ret (v:=.tuple #[.int .i64 0,.int .i64 1,.int .i64 0]) (by simp [results,Tryz.results121,go_sem];try decide) rfl ⟨?_,rfl⟩
  rw [hno.out]
end Go.Proofs.YtjcpamjeekfblaaGreatDoor

namespace Go.Proofs.YtjcpamjeekfblaaGreatDoor
open Go.RowKit
def BegV (S:Prop) (lo hi n z:Nat) (e:Ending):Prop:=∃ (ok:Bool) (r:Int) (al:Bool),e = .returned (.tuple #[.bool ok,.int .i32 r,.bool al])∧(ok=true ↔ S)∧(ok=true→∃ c:Nat,r=(c:Int)∧lo≤c∧c≤hi)∧(ok=true→al=decide (n=z))
theorem sizeZ_nat (c:Nat):sizeZ (c:Int)=sizeN c:=by unfold sizeZ;rw [if_neg (by omega)];rfl
theorem hiB_small {x:Nat} {t:List Nat} (hx:x<256) (h:SpanOk x t):hiB5u x t<33554432:=by
 have h1:=accB_lt t (leadB x) h.1
 have h2:=leadB_le hx
 have hs:sizeB x≤4:=by have:=sizeB_cases x hx;omega
 have h0:=h.2
 have h3:(accB (leadB x) t+1)*64 ^ (sizeB x-(t.length+1))≤((leadB x+1)*64 ^ t.length)*64 ^ (sizeB x-(t.length+1)):=Nat.mul_le_mul_right _ h1
 rw [Nat.mul_assoc,← Nat.pow_add] at h3
 have h4:64 ^ (t.length+(sizeB x-(t.length+1)))≤64 ^ 3:=Nat.pow_le_pow_right (by decide) (by omega)
 have h5:(leadB x+1)*64 ^ (t.length+(sizeB x-(t.length+1)))≤128*64 ^ 3:=Nat.mul_le_mul (by omega) h4
 have h6:128*64 ^ 3=33554432:=by decide
 have h7:0<(accB (leadB x) t+1)*64 ^ (sizeB x-(t.length+1)):=Nat.mul_pos (by omega) (Nat.pos_of_ne_zero (by simp))
 unfold hiB5u
 omega
theorem less_by {c hi:Nat} (h:c≤hi):hi+1-((c:Int)+1).toNat<hi+1-(c:Int).toNat:=by omega
set_option maxRecDepth 10000 in
set_option maxHeartbeats 2000000 in
theorem begins_calls (x:Nat) (t:List Nat) (hx:x<256) (hlen:t.length≤3) (g cap:Nat) (w:World) (hc0:w.cell? ⟨g,0,none⟩=some (.int .u8 (x:Int))) (hct:∀ (i y:Nat),t[i]? = some y→w.cell? ⟨g,i+1,none⟩=some (.int .u8 (y:Int))∧y<256) :
  Calls Tryz.prog 103 #[.slice (some ⟨g,0,none⟩) (t.length+1) cap] w fun e w'=>BegV (SomeB x t) (loB x t) (hiB5u x t) (t.length+1) (sizeB x) e∧w'=w:=by
 have hsp:=hid (span_calls x t hx hlen g cap w hc0 hct)
 clear hc0 hct
 by_cases hS:SpanOk x t
 ·rw [spanV_pos hS] at hsp
  have hb:=hiB_small hx hS
  have hz0:0<sizeB x:=by have:=hS.2;omega
  obtain ⟨n,hn⟩:∃ n:Nat,n=t.length+1:=⟨_,rfl⟩
  obtain ⟨z,hz⟩:∃ z:Nat,z=sizeB x:=⟨_,rfl⟩
  obtain ⟨lo,hlo⟩:∃ lo:Nat,lo=loB x t:=⟨_,rfl⟩
  obtain ⟨hi,hhi⟩:∃ hi:Nat,hi=hiB5u x t:=⟨_,rfl⟩
  have hS':=hid hS
  have key:SomeB x t ↔ ∃ c,lo≤c∧c≤hi∧sizeN c=z:=by
   rw [hlo,hhi,hz]
   exact ⟨fun h=>h.2,fun h=>⟨hS,h⟩⟩
  rw [← hn,← hz,← hlo,← hhi] at hsp ⊢
  rw [key]
  rw [← hz] at hz0
  rw [← hhi] at hb
  clear hz hlo hhi key hS hx hlen
  have hn':=hid hn
  clear hn
  go_enter Tryz.func103,Tryz.ntmps103
  go_wp2_with fail
  refine Calls.mono hsp.out ?_
  rintro e w1 ⟨rfl,hw1⟩
  rw [hw1]
  clear hw1 hsp
  go_wp2
  go_loopw [8] (fun cc wr=>∃ c:Nat,lo≤c∧cc = .int .i64 (c:Int)∧Hid (∀ d,lo≤d→d<c→sizeN d≠z)∧w=wr) (fun cc _=>hi+1-(intOf cc).toNat)
  case atStart=>exact ⟨lo,Nat.le_refl _,rfl,hid (fun d h1 h2=>by omega),rfl⟩
  case round =>
   obtain ⟨c,hc,rfl,hno,hwr⟩:=hrel
   subst hwr
   by_cases hle:c≤hi
   ·have hlei:(c:Int)≤(hi:Int):=by omega
    have hci:(c:Int)<2147483648:=by omega
    have hcw:(c:Int) % 4294967296=(c:Int):=by omega
    have hsc:=hid (refSize_calls (c:Int) w)
    rw [sizeZ_nat] at hsc
    go_wp2_with fail
    refine Calls.mono hsc.out ?_
    rintro e w1 ⟨rfl,hw1⟩
    rw [hw1]
    clear hw1 hsc
    by_cases heq:sizeN c=z
    ·have heqi:(sizeN c:Int)=(z:Int):=by omega
     have hfin:=hid (show ∃ d,lo≤d∧d≤hi∧sizeN d=z from ⟨c,hc,hle,heq⟩)
     clear heq
     go_wp2
     refine bodyPost_ret (v:=.tuple #[.bool true,.int .i32 (c:Int),.bool ((n:Int) == (z:Int))]) (by simp [results,Tryz.results103,go_sem];try decide) rfl ⟨⟨true,(c:Int),_,rfl,⟨fun _=>hfin.out,fun _=>rfl⟩,fun _=>⟨c,rfl,hc,hle⟩,fun _=>?_⟩,rfl⟩
     rw [Bool.eq_iff_iff]
     simp
     omega
    ·have heqi:¬ ((sizeN c:Int)=(z:Int)):=by omega
     have hno1:=hid (show ∀ d,lo≤d→d<c+1→sizeN d≠z from fun d h1 h2=>by
      by_cases e:d=c
      ·subst e;exact heq
      ·exact hno.out d h1 (by omega))
     by_cases h1:c=55296
     ·subst h1
      by_cases h2:57343<hi
      ·have h2i:(57343:Int)<(hi:Int):=by omega
       have hno2:=hid (show ∀ d,lo≤d→d<57344→sizeN d≠z from fun d h1 h2=>by
        by_cases e:d<55297
        ·exact hno1.out d h1 e
        ·have e0:sizeN d=0:=by unfold sizeN;rw [if_pos (.inl ⟨by omega,by omega⟩)]
         omega)
       clear heq hcw hci
       go_wp2
       go_roundw
       case rel=>exact ⟨57344,by omega,by simp,hno2,by first | trivial | rfl⟩
       case measure=>simp [intOf];omega
      ·have h2i:¬ (57343:Int)<(hi:Int):=by omega
       clear heq hcw hci
       go_wp2
       go_roundw
       case rel=>exact ⟨55297,by omega,by simp,hno1,by first | trivial | rfl⟩
       case measure=>simp [intOf];omega
     ·have h1i:¬ ((c:Int)=55296):=by omega
      have hwc:wrap64 ((c:Int)+1)=(c:Int)+1:=by unfold wrap64;omega
      have hle2:=hid hle
      have hb':=hid hb
      clear heq h1 hcw hci hb
      go_wp2
      go_roundw
      case rel=>exact ⟨c+1,by omega,by rw [hwc];rfl,hno1,by first | trivial | rfl⟩
      case measure=>rw [hwc];exact less_by hle2.out
   ·have hlei:¬ (c:Int)≤(hi:Int):=by omega
    have hnone:=hid (show ¬ ∃ d,lo≤d∧d≤hi∧sizeN d=z from fun ⟨d,h1,h2,h3⟩=>hno.out d h1 (by omega) h3)
    go_wp2
    refine bodyPost_ret (v:=.tuple #[.bool false,.int .i32 0,.bool false]) (by simp [results,Tryz.results103,go_sem];try decide) rfl ⟨⟨false,0,false,rfl,⟨fun h=>(by cases h),fun h=>absurd h hnone.out⟩,fun h=>(by cases h),fun h=>(by cases h)⟩,rfl⟩
 ·rw [spanV_neg hS] at hsp
  have hS':=hid hS
  clear hS hx hlen
  obtain ⟨n,hn⟩:∃ n:Nat,n=t.length+1:=⟨_,rfl⟩
  rw [← hn] at hsp ⊢
  clear hn
  go_enter Tryz.func103,Tryz.ntmps103
  go_wp2_with fail
  refine Calls.mono hsp.out ?_
  rintro e w1 ⟨rfl,hw1⟩
  rw [hw1]
  clear hw1 hsp
  go_wp2
  go_loopw [8] (fun cc wr=>cc = .int .i64 1∧w=wr) (fun _ _=>0)
  case atStart=>exact ⟨rfl,rfl⟩
  case round =>
   obtain ⟨rfl,hwr⟩:=hrel
   subst hwr
   go_wp2
   refine bodyPost_ret (v:=.tuple #[.bool false,.int .i32 0,.bool false]) (by simp [results,Tryz.results103,go_sem];try decide) rfl ⟨⟨false,0,false,rfl,⟨fun h=>(by cases h),fun h=>absurd h.1 hS'.out⟩,fun h=>(by cases h),fun h=>(by cases h)⟩,rfl⟩
end Go.Proofs.YtjcpamjeekfblaaGreatDoor

namespace Go.Proofs.YtjcpamjeekfblaaGreatDoor
open Go.RowKit
theorem bytes_below (w:World) (e:TypeId) (s:ByteArray):Below w.heap.size w (Lib.bytesWorld w e s) :=
 ⟨rfl,rfl,rfl,by rw [Lib.bytesWorld_size];omega,fun k hk=>Lib.bytesWorld_at_old w e s k hk⟩
theorem row_below {w w':World} {B n:Nat} {e:TypeId} {v:Value} {xs:List Value} (h:w.ownsRow B e 1 v n xs) (hb:Below w.heap.size w w'):w'.ownsRow B e 1 v n xs:=by
 obtain ⟨h1,h2 | ⟨g,cap,cur,h3,h4,h5,h6⟩⟩:=h
 ·exact ⟨h1,.inl h2⟩
 ·exact ⟨h1,.inr ⟨g,cap,cur,h3,h4,(hb.block g (Array.getElem?_eq_some_iff.1 h5).1).trans h5,h6⟩⟩
theorem row_otherK {w w':World} {B C n m:Nat} {e f:TypeId} {v u:Value} {xs ys:List Value} (hef:e≠f) (h:w.ownsRow B e 1 v n xs) (k:w.ownsRow C f 1 u m ys) (hg:w.grownBy w' u.ownBlock):w'.ownsRow B e 1 v n xs:=by
 obtain ⟨h1,h2 | ⟨g,cap,cur,h3,h4,h5,h6⟩⟩:=h
 ·exact ⟨h1,.inl h2⟩
 ·refine ⟨h1,.inr ⟨g,cap,cur,h3,h4,(hg.block g (Array.getElem?_eq_some_iff.1 h5).1 ?_).trans h5,h6⟩⟩
  intro hgu
  obtain ⟨_,⟨rfl,_⟩ | ⟨g',_,cur',rfl,_,k5,_⟩⟩:=k
  ·cases hgu
  ·have:g=g':=by simpa [Value.ownBlock] using hgu
   subst this
   rw [h5] at k5
   simp at k5
   exact hef k5.2
end Go.Proofs.YtjcpamjeekfblaaGreatDoor

namespace Go.Proofs.YtjcpamjeekfblaaGreatDoor
open Go.RowKit
def ints5 (L:List Nat):List Value:=L.map fun p=>.int .i64 ((p:Nat):Int)
def runes5 (L:List Nat):List Value:=L.map fun p=>.int .i32 ((p:Nat):Int)
theorem ints5_snoc (L:List Nat) (p:Nat):ints5 (L++[p])=ints5 L++[.int .i64 ((p:Nat):Int)]:=by simp [ints5]
theorem runes5_snoc (L:List Nat) (p:Nat):runes5 (L++[p])=runes5 L++[.int .i32 ((p:Nat):Int)]:=by simp [runes5]
def Rows5 (B:Nat) (w:World) (v u:Value) (L:List (Nat × Nat)):Prop:=w.ownsRow B 3 1 v L.length (ints5 (L.map (·.1)))∧w.ownsRow B 21 1 u L.length (runes5 (L.map (·.2)))
theorem infoI5:(Tryz.prog.info? 3).map (fun i=>(i.zero,i.size,i.bytes))=some (some (.int .i64 0),1,8):=by kernel_rfl
theorem infoR5:(Tryz.prog.info? 21).map (fun i=>(i.zero,i.size,i.bytes))=some (some (.int .i32 0),1,4):=by kernel_rfl
def Inner (s:ByteArray) (p:Nat) (B:Nat) (w0:World) (v u:Value) (n:Nat) (whole:Bool) (wr:World):Prop :=
 ∃ (b:List Nat) (q:Q5) (r:Nat) (pre:List (Nat × Nat)),Rows5 B wr v u pre∧Below B w0 wr ∧
  ((whole=false∧n=b.length+1∧(b=[]→p<s.size)∧WalkAt s p (p+b.length) b q r pre)∨(whole=true∧2≤n∧b=[]∧WalkAt s (p+n-1) (p+n-1) b q r pre))
set_option maxRecDepth 10000 in
set_option maxHeartbeats 2000000 in
theorem walk5_calls (s:ByteArray) (hs:s.size≤4294967296) (w:World) :
  Calls Tryz.prog 84 #[.string s] w fun e w'=>∃ v u,e = .returned (.tuple #[v,u,.int .i64 (badOf s)])∧Rows5 w.heap.size w' v u (telOf s)∧Below w.heap.size w w':=by
 obtain ⟨i0,hi,hz0,hz1,hz2⟩:=info_parts infoI5
 obtain ⟨j0,hj,hy0,hy1,hy2⟩:=info_parts infoR5
 go_enter Tryz.func84,Tryz.ntmps84
 go_wp2
 go_loopw [5,6,7] (fun v u ff wr=>∃ (p r:Nat) (q:Q5) (pre:List (Nat × Nat)),ff = .int .i64 (p:Int)∧Rows5 w.heap.size wr v u pre∧Below w.heap.size w wr∧WalkAt s p p [] q r pre) (fun _ _ ff _=>s.size-(intOf ff).toNat)
 case atStart=>exact ⟨0,0,s5.q,[],rfl,⟨World.ownsRow_nil _ _ _ _,World.ownsRow_nil _ _ _ _⟩,Below.refl _ _,WalkAt.start s⟩
 case round =>
  obtain ⟨p,r,q,pre,rfl,hR,hB,hW⟩:=hrel
  have hps:=hW.2.1
  by_cases hlt:p<s.size
  ·have hli:(p:Int)<(s.size:Int):=by omega
   have hin:=hid (show Inner s p w.heap.size w u5 u6 1 false wr from ⟨[],q,r,pre,hR,hB,.inl ⟨rfl,rfl,fun _=>hlt,hW⟩⟩)
   clear hR hB hW
   go_wp2
   go_loopw [5,6,8,9] (fun v u nn wh wr=>∃ (n:Nat) (whole:Bool),nn = .int .i64 (n:Int)∧wh = .bool whole∧Inner s p w.heap.size w v u n whole wr) (fun _ _ nn _ _=>6-(intOf nn).toNat)
   case atStart=>exact ⟨1,false,rfl,rfl,hin.out⟩
   case round =>
    obtain ⟨n,whole,rfl,rfl,hI⟩:=hrel
    clear hin
    obtain ⟨b,q,r,pre,hR,hB,⟨rfl,hn,hp,hW⟩ | ⟨rfl,hn,hb,hW⟩⟩:=hI
    ·have hbl:=form_len hW.2.2.2.1
     have hile:=hW.2.1
     obtain ⟨i,hieq⟩:∃ i:Nat,i=p+b.length:=⟨_,rfl⟩
     rw [← hieq] at hW hile
     have hni:(p:Int)+(n:Int)=(i:Int)+1:=by omega
     have hni':p+n=i+1:=by omega
     have hn4:n≤4:=by omega
     have hn':=hid hn
     have hp':=hid hp
     have hieq':=hid hieq
     have hR':=hid hR
     have hB':=hid hB
     have hW':=hid hW
     clear hn hp hieq hR hB hW
     by_cases hend:i=s.size
     ·have hgt:(s.size:Int)<(i:Int)+1:=by omega
      have hbad:=hid (show badOf s=(s.size:Int) by
       have h:=hW'.out
       rw [hend] at h
       rw [h.done.2,if_neg]
       intro k
       have:=(form_nil h.2.2.2.1).2 k
       have:=hp'.out this
       have:=hieq'.out
       simp_all)
      have htel:=hid (show Rows5 w.heap.size wr u5 u6 (telOf s) by
       have h:=hW'.out
       rw [hend] at h
       rw [h.done.1]
       exact hR'.out)
      clear hend
      go_wp2
      exact bodyPost_ret (v:=.tuple #[u5,u6,.int .i64 (s.size:Int)]) (by simp [results,Tryz.results84,go_sem];try decide) rfl ⟨_,_,by rw [hbad.out],htel.out,hB'.out⟩
     ·have hgt:¬ (s.size:Int)<(i:Int)+1:=by omega
      have hilt:i<s.size:=by omega
      have hsl:i+1≤s.size:=hilt
      obtain ⟨E,hE⟩:∃ E:ByteArray,s.extract p (i+1)=E:=⟨_,rfl⟩
      have hbE:=hid (show byts E=b++[byt s i] by
       rw [← hE,byts_extract,show i+1-p=b.length+1 by have:=hieq'.out;omega,List.take_add_one,← hW'.out.2.2.1,List.getElem?_drop,← hieq'.out,byts_get s i hilt]
       rfl)
      have hEs:=hid (show E.size=n by rw [← byts_length,hbE.out,List.length_append,hn'.out];rfl)
      have hcv:=Lib.run_convert_string_bytes (P:=Tryz.prog) wr 9 63 5 E Tryz.underlying9 Tryz.underlying63 Tryz.underlying5
      rw [hEs.out] at hcv
      obtain ⟨W1,hW1⟩:∃ W1,Lib.bytesWorld wr 5 E=W1:=⟨_,rfl⟩
      rw [hW1] at hcv
      have hbel:Below wr.heap.size wr W1:=by rw [← hW1];exact bytes_below _ _ _
      have hcell:∀ (j y:Nat),(b++[byt s i])[j]? = some y→W1.cell? ⟨wr.heap.size,j,none⟩=some (.int .u8 (y:Int))∧y<256:=by
       intro j y hj
       rw [← hbE.out] at hj
       have hjl:j<E.size:=by rw [← byts_length];exact (List.getElem?_eq_some_iff.1 hj).1
       rw [byts_get E j hjl] at hj
       cases hj
       rw [← hW1]
       exact ⟨Lib.bytesWorld_cell wr 5 E j hjl,byt_lt _ _⟩
      obtain ⟨x,t,hxt⟩:∃ x t,b++[byt s i]=x :: t:=by cases b <;> exact ⟨_,_,rfl⟩
      have htl:t.length+1=n:=by have:=congrArg List.length hxt;rw [List.length_append] at this;simp at this;have:=hn'.out;omega
      rw [hxt] at hcell
      obtain ⟨hc0,hx⟩:=hcell 0 x rfl
      have hbg:=hid (begins_calls x t hx (by omega) wr.heap.size (grownCap wr n 0 5) W1 hc0 (fun j y hj=>hcell (j+1) y hj))
      rw [htl] at hbg
      have hbel':=hid hbel
      have hxt':=hid hxt
      have hx':=hid hx
      have htl':=hid htl
      have hend':=hid hend
      generalize grownCap wr n 0 5=cap at hcv hbg
      clear hW1 hbel hcell hc0 hx hxt htl hend hilt
      go_wp2_with fail
      refine Calls.mono hbg.out ?_
      rintro e w1 ⟨hV,hw1⟩
      obtain ⟨ok,rr,al,rfl,hok,hrr,hal⟩:=hV
      rw [hw1]
      clear hw1 hbg hcv
      have hR1:=hid (show Rows5 w.heap.size W1 u5 u6 pre from ⟨row_below hR'.out.1 hbel'.out,row_below hR'.out.2 hbel'.out⟩)
      have hB2:=hid (hB'.out.trans (hbel'.out.mono hB'.out.size))
      have hWs:=hid (show w.heap.size≤W1.heap.size from Nat.le_trans hB'.out.size hbel'.out.size)
      have hpl:=hid (show pre.length≤4294967296 by have:=hW'.out.2.2.2.2.2.2;have:=hieq'.out;omega)
      cases hst:stp q (byt s i) with
      | none =>
       have hno:=begins_none hW'.out.2.2.2.1 (byt_lt s i) hst x t hxt'.out hx'.out
       obtain rfl:ok=false:=by cases ok;rfl;exact absurd (hok.1 rfl) hno
       have hilt:i<s.size:=hsl
       have hbad:=hid (hW'.out.bad hilt hst).1
       have htel:=hid (show Rows5 w.heap.size W1 u5 u6 (telOf s) by rw [(hW'.out.bad hilt hst).2];exact hR1.out)
       clear hok hrr hal hst hno
       go_wp2
       exact bodyPost_ret (v:=.tuple #[u5,u6,.int .i64 (i:Int)]) (by simp [results,Tryz.results84,go_sem];try decide) rfl ⟨_,_,by rw [hbad.out],htel.out,hB2.out⟩
      | some q' =>
       have hsome:=begins_some hW'.out.2.2.2.1 (byt_lt s i) hst x t hxt'.out hx'.out
       obtain rfl:ok=true:=hok.2 hsome.1
       have hal2:=hal rfl
       clear hal
       obtain ⟨c,rfl,hc1,hc2⟩:=hrr rfl
       have hilt:i<s.size:=hsl
       have hnx:=hid (hW'.out.next hilt hst)
       by_cases hl:q'.left=0
       ·have e1:=hsome.2.1.2 hl
        have e2:=hsome.2.2 hl
        obtain rfl:al=true:=by rw [hal2];exact decide_eq_true (by have:=htl'.out;omega)
        obtain rfl:c=nextR b r (byt s i) q'.left:=by omega
        have hnx1:=hid (hnx.out.1 hl)
        generalize nextR b r (byt s i) q'.left=c at *
        clear hok hrr hal2 hst hsome hl e1 e2 hnx hc1 hc2 hilt
        have hr1:=hR1.out.1
        have hr1':=hid hr1
        clear hr1
        go_wp2_with (first
         | (at_builtin;refine wpList_append_own _ rfl _ _ 107 rfl w.heap.size 3 i0 (.int .i64 0) 1 8 Tryz.underlying107 hi hz0 hz1 hz2  rfl (by decide) _ _ _ rfl (World.ownsRow.alloc hr1'.out _) ⟨W1.heap.size,0,none⟩ 1 1 [.int .i64 (p:Int)] rfl rfl ?c1 ?c2 ?c3 ?c4 ?c5 ?_)
         | go_in)
        case c1 =>
         intro j u hj
         match j,hj with
         | 0,hj=>simp at hj;subst hj;simp [Addr.add]
        case c2=>intro u hu;simp at hu;subst hu;rfl
        case c3=>unfold maxLen;have:=hpl.out;omega
        case c4=>have:=hpl.out;omega
        case c5=>have:=hWs.out;simp;omega
        ·intro v' w2 hown1 hg1 _
         have hl2:=hid (row_otherK (by decide) (World.ownsRow.alloc hR1.out.2 (.cells #[.int .i64 (p:Int)] 3)) (World.ownsRow.alloc hr1'.out (.cells #[.int .i64 (p:Int)] 3)) hg1)
         have hb1:=hid (show Below w.heap.size w w2 from (hB2.out.alloc hWs.out _).grown hg1 (by simp;have:=hWs.out;omega) (fun k e=>(hr1'.out.lt k e).1))
         have hown1':=hid hown1
         have hw2s:=hid hb1.out.size
         clear hown1 hg1
         go_wp2_with (first
          | (at_builtin;refine wpList_append_own _ rfl _ _ 108 rfl w.heap.size 21 j0 (.int .i32 0) 1 4 Tryz.underlying108 hj hy0 hy1 hy2  rfl (by decide) _ _ _ rfl (World.ownsRow.alloc hl2.out _) ⟨w2.heap.size,0,none⟩ 1 1 [.int .i32 (c:Int)] rfl rfl ?c1 ?c2 ?c3 ?c4 ?c5 ?_)
          | go_in)
         case c1 =>
          intro j u hj
          match j,hj with
          | 0,hj=>simp at hj;subst hj;simp [Addr.add]
         case c2=>intro u hu;simp at hu;subst hu;rfl
         case c3=>unfold maxLen;have:=hpl.out;omega
         case c4=>have:=hpl.out;omega
         case c5=>have:=hw2s.out;simp;omega
         ·intro v2 w3 hown2 hg2 _
          have ha3:=hid (row_otherK (by decide) (World.ownsRow.alloc hown1'.out (.cells #[.int .i32 (c:Int)] 21)) (World.ownsRow.alloc hl2.out (.cells #[.int .i32 (c:Int)] 21)) hg2)
          have hb3:=hid (show Below w.heap.size w w3 from (hb1.out.alloc hw2s.out _).grown hg2 (by simp;have:=hw2s.out;omega) (fun k e=>(hl2.out.lt k e).1))
          have hR3:=hid (show Rows5 w.heap.size w3 v' v2 (pre++[(p,c)]) by
           refine ⟨?_,?_⟩
           ·rw [List.map_append,List.length_append]
            show World.ownsRow _ _ _ _ _ _ (ints5 (pre.map (·.1)++[p]))
            rw [ints5_snoc]
            exact ha3.out
           ·rw [List.map_append,List.length_append]
            show World.ownsRow _ _ _ _ _ _ (runes5 (pre.map (·.2)++[c]))
            rw [runes5_snoc]
            exact hown2)
          clear hown2 hg2
          go_wp2
          go_roundw
          case rel=>exact ⟨n+1,true,by simp,rfl,[],q',c,pre++[(p,c)],hR3.out,hb3.out,.inr ⟨rfl,by have:=hn'.out;omega,rfl,by rw [show p+(n+1)-1=i+1 by omega];exact hnx1.out⟩⟩
          case measure=>simp [intOf];omega
       ·obtain rfl:al=false:=by rw [hal2];exact decide_eq_false (fun k=>hl (hsome.2.1.1 (by have:=htl'.out;omega)))
        have hnx1:=hid (hnx.out.2 hl)
        generalize nextR b r (byt s i) q'.left=c2 at *
        clear hok hrr hal2 hst hsome hl hnx hc1 hc2 hilt
        go_wp2
        go_roundw
        case rel=>exact ⟨n+1,false,by simp,rfl,b++[byt s i],q',c2,pre,hR1.out,hB2.out,.inl ⟨rfl,by rw [List.length_append,hn'.out];rfl,fun k=>by simp at k,by rw [List.length_append,← Nat.add_assoc,← hieq'.out];exact hnx1.out⟩⟩
        case measure=>simp [intOf];omega
    ·subst hb
     have hn':=hid hn
     have hW':=hid hW
     have hR':=hid hR
     have hB':=hid hB
     have hi2:=hW.2.1
     have hq2:(p:Int)+(n:Int)≤9223372036854775807:=by omega
     clear hR hB hW
     go_wp2
     go_roundw
     case rel=>exact ⟨p+n-1,r,q,pre,by congr 1;omega,hR'.out,hB'.out,hW'.out⟩
     case measure=>simp [intOf];omega
  ·obtain rfl:p=s.size:=by omega
   have hbad:=hid (show badOf s = -1 by rw [hW.done.2,if_pos (show q.left=0 from hW.2.2.2.1)])
   have htel:=hid (show Rows5 w.heap.size wr u5 u6 (telOf s) by rw [hW.done.1];exact hR)
   have hB2:=hid hB
   clear hR hB hW hlt
   go_wp2
   exact bodyPost_ret (v:=.tuple #[u5,u6,.int .i64 (-1)]) (by simp [results,Tryz.results84,go_sem];try decide) rfl ⟨_,_,by rw [hbad.out],htel.out,hB2.out⟩
end Go.Proofs.YtjcpamjeekfblaaGreatDoor

namespace Go.Proofs.YtjcpamjeekfblaaGreatDoor
open Go.RowKit
set_option maxRecDepth 10000 in
theorem refBad_calls (s:ByteArray) (hs:s.size≤4294967296) (w:World) :
  Calls Tryz.prog 54 #[.string s] w fun e w'=>e = .returned (.int .i64 (badOf s))∧Below w.heap.size w w':=by
 have hw:=hid (walk5_calls s hs w)
 clear hs
 go_enter Tryz.func54,Tryz.ntmps54
 go_wp2_with fail
 refine Calls.mono hw.out ?_
 rintro e w1 ⟨v,u,rfl,-,hb⟩
 have hb':=hid hb
 clear hb hw
 go_wp2
 go_ret
 exact ⟨rfl,hb'.out⟩
end Go.Proofs.YtjcpamjeekfblaaGreatDoor

namespace Go.Proofs.YtjcpamjeekfblaaGreatDoor
open Go.RowKit
def lk (s:ByteArray) (i:Nat):Nat:=if h:i<s.size then (s[i]'h).toNat else 0
theorem lk_at (s:ByteArray) (i:Nat) (h:i<s.size):lk s i=(s[i]'h).toNat:=dif_pos h
theorem lk_out (s:ByteArray) (i:Nat) (h:s.size≤i):lk s i=0:=dif_neg (by omega)
theorem lk_in {s:ByteArray} {i:Nat} (h:0<lk s i):i<s.size:=by
 rcases Nat.lt_or_ge i s.size with h1 | h1
 ·exact h1
 ·rw [lk_out s i h1] at h;omega
def dgB (x:Nat):Bool:=decide (48≤x∧x≤57)
theorem dgB_iff (x:Nat):dgB x=true ↔ 48≤x∧x≤57:=by simp [dgB]
def rnF (s:ByteArray):Nat→Nat→Nat
 | 0,a=>a
 | n+1,a=>if dgB (lk s a) then rnF s n (a+1) else a
def rn (s:ByteArray) (a:Nat):Nat:=rnF s (s.size-a) a
theorem rnF_ge (s:ByteArray):∀ n a,a≤rnF s n a
 | 0,a=>Nat.le_refl a
 | n+1,a=>by
  unfold rnF
  split
  ·have:=rnF_ge s n (a+1);omega
  ·exact Nat.le_refl a
theorem rnF_le (s:ByteArray):∀ n a,rnF s n a≤a+n
 | 0,a=>Nat.le_refl a
 | n+1,a=>by
  unfold rnF
  split
  ·have:=rnF_le s n (a+1);omega
  ·omega
theorem rnF_dig (s:ByteArray):∀ n a i,a≤i→i<rnF s n a→dgB (lk s i)=true
 | 0,a,i,h1,h2=>by unfold rnF at h2;omega
 | n+1,a,i,h1,h2=>by
  unfold rnF at h2
  split at h2
  ·rename_i h
   rcases Nat.eq_or_lt_of_le h1 with rfl | h3
   ·exact h
   ·exact rnF_dig s n (a+1) i h3 h2
  ·omega
theorem rnF_end (s:ByteArray):∀ n a,s.size≤a+n→dgB (lk s (rnF s n a))=false
 | 0,a,h=>by
  unfold rnF
  rw [lk_out s a (by omega)]
  rfl
 | n+1,a,h=>by
  unfold rnF
  split
  ·exact rnF_end s n (a+1) (by omega)
  ·rename_i h1
   simpa using h1
theorem rn_ge (s:ByteArray) (a:Nat):a≤rn s a:=rnF_ge s _ a
theorem rn_le (s:ByteArray) (a:Nat) (h:a≤s.size):rn s a≤s.size:=by have:=rnF_le s (s.size-a) a;unfold rn;omega
theorem rn_dig (s:ByteArray) (a i:Nat) (h1:a≤i) (h2:i<rn s a):dgB (lk s i)=true:=rnF_dig s _ a i h1 h2
theorem rn_end (s:ByteArray) (a:Nat):dgB (lk s (rn s a))=false:=rnF_end s _ a (by omega)
theorem rn_uniq (s:ByteArray) (a e:Nat) (h:a≤e) (hd:∀ i,a≤i→i<e→dgB (lk s i)=true) (he:dgB (lk s e)=false):rn s a=e:=by
 have h1:=rn_ge s a
 rcases Nat.lt_trichotomy (rn s a) e with h2 | h2 | h2
 ·have h3:=hd _ h1 h2
  rw [rn_end] at h3
  cases h3
 ·exact h2
 ·have h3:=rn_dig s a e h h2
  rw [he] at h3
  cases h3
theorem rn_lt (s:ByteArray) (a:Nat) (h:dgB (lk s a)=true):a<rn s a:=by
 rcases Nat.eq_or_lt_of_le (rn_ge s a) with h1 | h1
 ·have:=rn_end s a
  rw [← h1,h] at this
  cases this
 ·exact h1
structure Num where
 neg:Bool
 wh:ByteArray
 be:ByteArray
 dn:Bool
 pw:ByteArray
def scA (s:ByteArray) (p:Nat):Nat:=if lk s p=45 then p+1 else p
def scB (s:ByteArray) (p:Nat):Nat:=if lk s (scA s p)=48 then scA s p+1 else rn s (scA s p)
def scC (s:ByteArray) (p:Nat):Nat:=if lk s (scB s p)=46 then rn s (scB s p+1) else scB s p
def scF (s:ByteArray) (p:Nat):Nat:=if lk s (scC s p+1)=43∨lk s (scC s p+1)=45 then scC s p+2 else scC s p+1
def scX (s:ByteArray) (p:Nat):Bool:=decide (lk s (scC s p)=101∨lk s (scC s p)=69)
def scH (s:ByteArray) (p:Nat):Nat:=if scX s p then rn s (scF s p) else scC s p
def scNeg (s:ByteArray) (p:Nat):Bool:=decide (lk s p=45)
def scDn (s:ByteArray) (p:Nat):Bool:=scX s p && decide (lk s (scC s p+1)=45)
def scBe (s:ByteArray) (p:Nat):ByteArray:=if lk s (scB s p)=46 then s.extract (scB s p+1) (scC s p) else ⟨#[]⟩
def scPw (s:ByteArray) (p:Nat):ByteArray:=if scX s p then s.extract (scF s p) (scH s p) else ⟨#[]⟩
def scanS (s:ByteArray) (p:Nat):Option Num × Nat :=
 if dgB (lk s (scA s p))=false then (none,scA s p)
 else if lk s (scB s p)=46∧dgB (lk s (scB s p+1))=false then (none,scB s p+1)
 else if scX s p=true∧dgB (lk s (scF s p))=false then (none,scF s p)
 else (some ⟨scNeg s p,s.extract (scA s p) (scB s p),scBe s p,scDn s p,scPw s p⟩,scH s p)
def pwN (l:List UInt8):Nat:=l.foldl (fun n b=>10*n+(b.toNat-48)) 0
structure Dec where
 neg:Bool
 ds:List UInt8
 ex:Int
def allS (n:Num):List UInt8:=Lib.trimLeftB (n.wh.data.toList++n.be.data.toList) 48
def digS (n:Num):List UInt8:=Lib.trimRightB (allS n) 48
def powS (n:Num):Int:=if n.dn then -(pwN n.pw.data.toList:Int) else pwN n.pw.data.toList
def expS (n:Num):Int:=powS n-(n.be.size:Int)+(((allS n).length-(digS n).length:Nat):Int)
def inB (x:Int):Bool:=decide (-1073741824≤x∧x≤1073741824)
def worthS (n:Num):Option Dec :=
 if allS n=[] then some ⟨n.neg,[],0⟩
 else if inB (expS n) then some ⟨n.neg,digS n,expS n⟩ else none
def zeroD:Dec:=⟨false,[],0⟩
def readS (s:ByteArray) (p:Nat):Dec × Nat × Nat :=
 match (scanS s p).1 with
 | none=>(zeroD,(scanS s p).2,110)
 | some n=>match worthS n with
  | none=>(zeroD,(scanS s p).2,111)
  | some d=>(d,(scanS s p).2,0)
def ofS (s:ByteArray):Dec × Nat:=if (readS s 0).2.1=s.size then ((readS s 0).1,(readS s 0).2.2) else (zeroD,110)
def decV (d:Dec):Value:=.agg #[.bool d.neg,.string ⟨d.ds.toArray⟩,.int .i64 d.ex]
theorem trimL_length (l:List UInt8) (c:UInt8):(Lib.trimLeftB l c).length≤l.length:=by
 unfold Lib.trimLeftB
 exact (List.dropWhile_sublist _).length_le
theorem trimR_length (l:List UInt8) (c:UInt8):(Lib.trimRightB l c).length≤l.length:=by
 unfold Lib.trimRightB
 rw [List.length_reverse]
 have:=(List.dropWhile_sublist (fun x=>x == c) (l:=l.reverse)).length_le
 rwa [List.length_reverse] at this
theorem trimL_twice (a b:List UInt8) (c:UInt8):Lib.trimLeftB (Lib.trimLeftB a c++b) c=Lib.trimLeftB (a++b) c:=by
 unfold Lib.trimLeftB
 induction a with
 | nil=>rfl
 | cons x r ih =>
  by_cases h:(x == c)=true
  ·simp only [List.dropWhile_cons,h,if_true,List.cons_append]
   exact ih
  ·simp only [List.dropWhile_cons,h,List.cons_append]
   simp [h]
end Go.Proofs.YtjcpamjeekfblaaGreatDoor
