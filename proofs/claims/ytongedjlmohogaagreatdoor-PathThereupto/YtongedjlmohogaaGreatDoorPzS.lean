import Derived.Test.YtongedjlmohogaaGreatDoorPack22
namespace Go.Proofs.YtongedjlmohogaaGreatDoor
open Go.RowKit Go.Shelf
theorem fm_cases {s:Stp} (h:fmS s=true):(∃ nm,s=⟨1,nm,0⟩∧badOf nm = -1)∨(∃ p,s=⟨2,⟨#[]⟩,p⟩∧0≤p∧p≤999999999999999999)∨s=⟨3,⟨#[]⟩,0⟩:=by
 obtain ⟨k,nm,p⟩:=s
 unfold fmS at h
 dsimp only at h
 by_cases h1:k=1
 ·rw [if_pos h1,Bool.and_eq_true,decide_eq_true_eq,decide_eq_true_eq] at h
  exact .inl ⟨nm,by rw [h1,h.1],h.2⟩
 ·rw [if_neg h1] at h
  by_cases h2:k=2
  ·rw [if_pos h2,Bool.and_eq_true,Bool.and_eq_true,decide_eq_true_eq,decide_eq_true_eq,decide_eq_true_eq] at h
   exact .inr (.inl ⟨p,by rw [h2,h.1],h.2.1,h.2.2⟩)
  ·rw [if_neg h2] at h
   by_cases h3:k=3
   ·rw [if_pos h3,Bool.and_eq_true,decide_eq_true_eq,decide_eq_true_eq] at h
    exact .inr (.inr (by rw [h3,h.1,h.2]))
   ·rw [if_neg h3] at h
    cases h
theorem wr_read {s:Stp} {T:ByteArray} (hf:fmS s=true) (hT:IsWr s T):(∃ x r,byts T=x :: r∧(x=46∨x=91))∧∀ (u:ByteArray) (a:Nat) (rest:List Nat),(byts u).drop a=byts T++rest→NxS rest→IsRead u a (some s) (a+T.size):=by
 rcases fm_cases hf with ⟨nm,rfl,hb⟩ | ⟨p,rfl,hp⟩ | rfl
 ·rcases hT with ⟨-,n,hn,⟨⟨h0,hz⟩,rfl⟩ | ⟨-,rfl⟩⟩ | ⟨h,-⟩ | ⟨⟨h,-⟩,-⟩
  ·have e:byts (⟨#[46]⟩++nm)=46 :: byts nm:=by rw [byts_append];rfl
   dsimp only at e hn hz ⊢
   refine ⟨⟨_,_,e,.inl rfl⟩,fun u a rest hu hr=>?_⟩
   rw [e] at hu
   have h:=rd_word hn h0 hz hu hr
   rw [show a+(⟨#[46]⟩++nm:ByteArray).size=a+1+nm.size by rw [ByteArray.size_append,show (⟨#[46]⟩:ByteArray).size=1 from rfl];omega]
   exact h
  ·have hl:∀ x ∈ (byts nm).flatMap oneL,x<256:=by
    intro x hx
    obtain ⟨c,hc,hx⟩:=List.mem_flatMap.1 hx
    exact (oneL_lt (byts_lt nm c hc)).1 x hx
   have hw:(wrS nm).1=mkS ((byts nm).flatMap oneL):=by unfold wrS;rw [if_neg (by omega)]
   dsimp only
   rw [hw]
   have e:byts ((⟨#[91,34]⟩++mkS ((byts nm).flatMap oneL))++⟨#[34,93]⟩)=91 :: 34 :: ((byts nm).flatMap oneL++[34,93]):=by
    rw [byts_append,byts_append,byts_mkS hl];rfl
   refine ⟨⟨_,_,e,.inr rfl⟩,fun u a rest hu hr=>?_⟩
   rw [e] at hu
   have h:=rd_quote hb (u:=u) (a:=a) (rest:=rest) (by rw [hu];simp)
   rw [show ((⟨#[91,34]⟩++mkS ((byts nm).flatMap oneL))++⟨#[34,93]⟩:ByteArray).size=((byts nm).flatMap oneL).length+4 by rw [← byts_length,e];simp]
   exact h
  ·exact absurd (show (1:Int)=2 from h) (by decide)
  ·exact absurd rfl h
 ·rcases hT with ⟨h,-⟩ | ⟨-,rfl⟩ | ⟨⟨-,h⟩,-⟩
  ·exact absurd (show (2:Int)=1 from h) (by decide)
  ·dsimp only
   have e:byts ((⟨#[91]⟩++⟨(Lib.itoa p).toArray⟩)++⟨#[93]⟩)=91 :: (byts (mkL (Lib.itoa p))++[93]):=by
    rw [byts_append,byts_append];rfl
   refine ⟨⟨_,_,e,.inr rfl⟩,fun u a rest hu hr=>?_⟩
   rw [e] at hu
   have h:=rd_num hp (u:=u) (a:=a) (rest:=rest) (by rw [hu];simp)
   rw [show ((⟨#[91]⟩++⟨(Lib.itoa p).toArray⟩)++⟨#[93]⟩:ByteArray).size=(Lib.itoa p).length+2 by rw [← byts_length,e,List.length_cons,List.length_append,byts_length,mkL_size];rfl]
   exact h
  ·exact absurd rfl h
 ·rcases hT with ⟨h,-⟩ | ⟨h,-⟩ | ⟨-,rfl⟩
  ·exact absurd h (by decide)
  ·exact absurd h (by decide)
  ·refine ⟨⟨46,[42],rfl,.inl rfl⟩,fun u a rest hu hr=>?_⟩
   exact rd_star hu
theorem wr_rds {u:ByteArray} {p:List Stp} {l:List UInt8} (h:Wrs p l):(∀ s ∈ p,fmS s=true)→∀ rest:List Nat,(byts u).drop 1=l.map UInt8.toNat++rest→NxS rest→Rds u (1+l.length) p:=by
 induction h with
 | nil=>intro _ rest _ _;exact .nil
 | snoc h hT ih =>
  rename_i p l s T
  intro hf rest hu hr
  have hfs:=hf s (List.mem_append_right _ (List.mem_singleton.2 rfl))
  obtain ⟨⟨x,r,hx,hx2⟩,hrd⟩:=wr_read hfs hT
  have hbT:T.data.toList.map UInt8.toNat=byts T:=rfl
  have hu1:(byts u).drop 1=l.map UInt8.toNat++(byts T++rest):=by rw [hu,List.map_append,hbT,List.append_assoc]
  have h1:=ih (fun s hs=>hf s (List.mem_append_left _ hs)) (byts T++rest) hu1 (.inr ⟨x,r++rest,by rw [hx];rfl,hx2⟩)
  have hu2:(byts u).drop (1+l.length)=byts T++rest:=by
   rw [← List.drop_drop,hu1,show l.length=(l.map UInt8.toNat).length by rw [List.length_map],List.drop_left]
  have h2:=hrd u (1+l.length) rest hu2 hr
  have hlt:1+l.length<u.size:=by
   have h3:=congrArg List.length hu2
   rw [List.length_drop,byts_length,List.length_append,hx] at h3
   simp at h3
   omega
  have hlen:(l++T.data.toList).length=l.length+T.size:=by rw [List.length_append,Array.length_toList];rfl
  rw [hlen,show 1+(l.length+T.size)=1+l.length+T.size by omega]
  exact .snoc h1 hlt h2
theorem wr_pp {p:List Stp} {l:List UInt8} (h:Wrs p l) (hf:p.all fmS=true):IsPp ⟨(36 :: l).toArray⟩ p 0 0:=by
 have hb:byts ⟨(36 :: l).toArray⟩=36 :: l.map UInt8.toNat:=by unfold byts;simp
 have hsz:(⟨(36 :: l).toArray⟩:ByteArray).size=1+l.length:=by rw [← byts_length,hb];simp;omega
 have h1:=wr_rds (u:=⟨(36 :: l).toArray⟩) h (fun s hs=>List.all_eq_true.1 hf s hs) [] (by rw [hb];simp) (.inl rfl)
 refine .inr ⟨⟨by omega,(lk_of (i:=0) (x:=36) (by rw [hb];rfl)).2⟩,.inl ⟨?_,rfl,rfl⟩⟩
 rw [hsz]
 exact h1
end Go.Proofs.YtongedjlmohogaaGreatDoor
