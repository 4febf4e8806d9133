import Derived.Test.YtongedjlmohogaaGreatDoorPzT
import Derived.Test.YtongedjlmohogaaGreatDoorPzD
namespace Go.Proofs.YtongedjlmohogaaGreatDoor
open Go.RowKit Go.Shelf
theorem wr_size {s:Stp} {T:ByteArray} (h:IsWr s T) (hp:-9223372036854775808≤s.place∧s.place≤9223372036854775807):(s.kind=2∧T.size≤23)∨T.size≤6*s.name.size+4:=by
 rcases h with ⟨-,n,-,⟨-,rfl⟩ | ⟨-,rfl⟩⟩ | ⟨hk,rfl⟩ | ⟨-,rfl⟩
 ·right
  rw [ByteArray.size_append]
  have:(⟨#[46]⟩:ByteArray).size=1:=rfl
  omega
 ·right
  rw [ByteArray.size_append,ByteArray.size_append]
  have h1:(⟨#[91,34]⟩:ByteArray).size=2:=rfl
  have h2:(⟨#[34,93]⟩:ByteArray).size=2:=rfl
  have:=wrS22_len s.name
  omega
 ·left
  refine ⟨hk,?_⟩
  rw [ByteArray.size_append,ByteArray.size_append]
  have h1:(⟨#[91]⟩:ByteArray).size=1:=rfl
  have h2:(⟨#[93]⟩:ByteArray).size=1:=rfl
  have:=Lib.itoa_length_le s.place hp.1 hp.2
  have h3:(⟨(Lib.itoa s.place).toArray⟩:ByteArray).size≤21:=by show (Lib.itoa s.place).toArray.size≤21;simpa using this
  omega
 ·right
  have:(⟨#[46,42]⟩:ByteArray).size=2:=rfl
  omega
theorem tx_len {T:ByteArray}:T.data.toList.length=T.size:=by rw [Array.length_toList];rfl
theorem wrs_blk {p:List Stp} {l:List UInt8} (h:Wrs p l):(∀ s ∈ p,-9223372036854775808≤s.place∧s.place≤9223372036854775807)→l.length≤6*blkSt p:=by
 induction h with
 | nil=>intro _;exact Nat.zero_le _
 | snoc h hT ih =>
  intro hp
  have h1:=ih (fun s hs=>hp s (List.mem_append_left _ hs))
  have h2:=wr_size hT (hp _ (List.mem_append_right _ (List.mem_singleton.2 rfl)))
  rw [List.length_append,tx_len,blkSt_snoc]
  omega
theorem wrs_snoc {p:List Stp} {x:Stp} {l:List UInt8} (h:Wrs (p++[x]) l):∃ l' T,Wrs p l'∧IsWr x T∧l=l'++T.data.toList:=by
 generalize hq:p++[x]=q at h
 cases h with
 | nil=>simp at hq
 | snoc h hT =>
  obtain ⟨rfl,hx⟩:=List.append_inj' hq rfl
  cases hx
  exact ⟨_,_,h,hT,rfl⟩
theorem wrs_nil {l:List UInt8} (h:Wrs [] l):l=[]:=by
 generalize hq:([]:List Stp)=q at h
 cases h with
 | nil=>rfl
 | snoc h hT=>simp at hq
theorem pv_sz {s:ByteArray} {i j:Nat} {t:Vt} (h:PV s i t j):t.text.size≤s.size:=by
 cases h with
 | text _ _ T hT =>
  obtain ⟨-,e,-,-,rfl⟩:=hT
  refine Nat.le_trans (unS_size _) ?_
  rw [ByteArray.size_extract]
  omega
 | _=>exact Nat.zero_le _
theorem bare_sz {s:ByteArray} {a e:Nat} {x:Stp} (ha:a≤s.size) (h:IsBare s a (some x) e):x.name.size≤e-a∧a+1≤e:=by
 refine ⟨?_,((h.rd ha).2.2 x rfl).1⟩
 rcases h with ⟨-,z,-,C,A,E,t,-,hp,h⟩ | ⟨-,-,h⟩ | ⟨-,-,n,hn,h1,-⟩
 ·rcases h with ⟨hc,h,rfl⟩ | ⟨-,h,-⟩
  ·cases h
   rcases hp with ⟨-,i,j,-,hv⟩ | ⟨hc',-⟩
   ·have:=pv_sz hv
    rw [ByteArray.size_extract] at this
    dsimp only
    omega
   ·exact absurd hc hc'
  ·cases h
 ·have h1:(starF s a).1=some x:=by rw [← h]
  unfold starF at h1
  by_cases q:hasB s a 42
  ·rw [if_pos q] at h1
   cases h1
   exact Nat.zero_le _
  ·rw [if_neg q] at h1
   cases h1
 ·unfold nmF at h1
  by_cases q:a<n
  ·rw [if_pos q] at h1
   cases h1
   exact Nat.zero_le _
  ·rw [if_neg q] at h1
   cases h1
theorem read_sz {s:ByteArray} {a e:Nat} {x:Stp} (ha:a<s.size) (h:IsRead s a (some x) e):x.name.size+1≤e-a∧(x.kind=2→a+3≤e):=by
 rcases h with ⟨-,n,hn,h,he⟩ | ⟨-,o',e',hb,h⟩ | ⟨-,h,-⟩
 ·unfold bpF at h he
  by_cases q:0<n
  ·rw [if_pos q] at h he
   cases h
   have h1:=hn.1
   rw [ByteArray.size_extract] at h1
   refine ⟨?_,fun h=>absurd (show (1:Int)=2 from h) (by decide)⟩
   dsimp only at he ⊢
   rw [ByteArray.size_extract]
   omega
  ·rw [if_neg q] at h he
   unfold starF at h he
   by_cases q:hasB s (a+1) 42
   ·rw [if_pos q] at h he
    cases h
    refine ⟨?_,fun h=>absurd (show (3:Int)=2 from h) (by decide)⟩
    dsimp only at he ⊢
    have:(⟨#[]⟩:ByteArray).size=0:=rfl
    omega
   ·rw [if_neg q] at h
    cases h
 ·rcases h with ⟨-,h,-⟩ | ⟨-,-,h,rfl⟩
  ·cases h
  ·rw [← h] at hb
   have h1:=bare_sz (by omega) hb
   exact ⟨by omega,fun _=>by omega⟩
 ·cases h
theorem rds_len {s:ByteArray} {a:Nat} {p:List Stp} (h:Rds s a p):∀ l:List UInt8,Wrs p l→l.length+8≤8*a:=by
 induction h with
 | nil =>
  intro l hl
  rw [wrs_nil hl]
  decide
 | snoc h ha hx ih =>
  intro l hl
  obtain ⟨l',T,h1,h2,rfl⟩:=wrs_snoc hl
  have h3:=ih l' h1
  obtain ⟨h4,h5⟩:=read_sz ha hx
  have hf:=read_fm ha hx
  have hpl:=(show _ from fm_cases hf)
  have h6:=wr_size h2 (by
   rcases hpl with ⟨nm,rfl,-⟩ | ⟨p,rfl,hp⟩ | rfl
   ·exact ⟨by dsimp only;omega,by dsimp only;omega⟩
   ·exact ⟨by dsimp only;omega,by dsimp only;omega⟩
   ·exact ⟨by decide,by decide⟩)
  rw [List.length_append,tx_len]
  rcases h6 with ⟨hk,h6⟩ | h6
  ·have:=h5 hk
   omega
  ·omega
end Go.Proofs.YtongedjlmohogaaGreatDoor
