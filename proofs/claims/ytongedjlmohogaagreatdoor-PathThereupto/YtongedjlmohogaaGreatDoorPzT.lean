import Derived.Test.YtongedjlmohogaaGreatDoorPzS
import Derived.Test.YtongedjlmohogaaGreatDoorTxMeet
namespace Go.Proofs.YtongedjlmohogaaGreatDoor
open Go.RowKit Go.Shelf
theorem bad_nil:badOf ⟨#[]⟩ = -1:=ok_bad ⟨q50,rfl,rfl⟩
theorem un_bad (s:ByteArray):badOf (unS s).1 = -1:=by
 by_cases hb:0≤badOf s
 ·have h:(unS s).1=⟨#[]⟩:=by unfold unS;rw [if_pos hb]
  rw [h]
  exact bad_nil
 ·cases hu:unescL (byts s) with
  | none =>
   have h:(unS s).1=⟨#[]⟩:=by unfold unS;rw [if_neg hb,hu]
   rw [h]
   exact bad_nil
  | some o =>
   have h:unS s=(mkS o,0):=by unfold unS;rw [if_neg hb,hu]
   rw [h]
   exact (right_facts h).1
theorem pv_bad {s:ByteArray} {i j:Nat} {t:Vt} (h:PV s i t j):badOf t.text = -1:=by
 cases h with
 | text _ _ T hT =>
  obtain ⟨-,e,-,-,rfl⟩:=hT
  exact un_bad _
 | _=>exact bad_nil
theorem wd_bad {s:ByteArray} {a n:Nat} (ha:a≤s.size) (hn:IsWd (s.extract a s.size) n):badOf (s.extract a (a+n)) = -1:=by
 refine ok_bad ⟨q50,runQ_ascii rfl fun x hx=>?_,rfl⟩
 obtain ⟨h1,h2,-⟩:=hn
 have hb:byts (s.extract a (a+n))=(byts (s.extract a s.size)).take n:=by
  rw [byts_extract,byts_extract,List.take_take]
  have h3:=h1
  rw [ByteArray.size_extract] at h3
  congr 1
  omega
 rw [hb] at hx
 obtain ⟨j,hj,he⟩:=List.mem_iff_getElem.1 hx
 rw [List.length_take] at hj
 have hjn:j<n:=by omega
 rw [List.getElem_take] at he
 have hg:(byts (s.extract a s.size))[j]? = some x:=by
  rw [List.getElem?_eq_getElem (by rw [byts_length];omega),he]
 rw [byts_get _ j (by omega),byt_byteAt,← lk_byteAt] at hg
 cases hg
 have h:=h2 j hjn
 unfold wdOk ltrB dgtB at h
 simp only [Bool.or_eq_true,Bool.and_eq_true,decide_eq_true_eq] at h
 omega
theorem plV_in (s:ByteArray):0≤plV s∧plV s≤999999999999999999:=by
 cases h:plB s with
 | false=>rw [plV_no h];decide
 | true =>
  rw [plV_yes h]
  unfold plB at h
  rw [Bool.and_eq_true,decide_eq_true_eq,decide_eq_true_eq] at h
  have h1:=plN_lt s s.size (fun j hj=>(h.2 j hj).2)
  have h2:10 ^ s.size≤10 ^ 18:=Nat.pow_le_pow_right (by decide) h.1.2.1
  have h3:(10:Nat) ^ 18=1000000000000000000:=by decide
  omega
theorem fm_nm {nm:ByteArray} (h:badOf nm = -1):fmS ⟨1,nm,0⟩=true:=by
 unfold fmS
 dsimp only
 rw [if_pos rfl,decide_eq_true h]
 rfl
theorem fm_pl {p:Int} (h:0≤p∧p≤999999999999999999):fmS ⟨2,⟨#[]⟩,p⟩=true:=by
 unfold fmS
 dsimp only
 rw [if_neg (by decide),if_pos rfl,decide_eq_true h.1,decide_eq_true h.2]
 rfl
theorem fm_star {s:ByteArray} {a:Nat} {x:Stp} (h:(starF s a).1=some x):fmS x=true:=by
 unfold starF at h
 by_cases q:hasB s a 42
 ·rw [if_pos q] at h
  cases h
  rfl
 ·rw [if_neg q] at h
  cases h
theorem bare_fm {s:ByteArray} {a e:Nat} {x:Stp} (h:IsBare s a (some x) e):fmS x=true:=by
 rcases h with ⟨-,z,-,C,A,E,t,-,hp,h⟩ | ⟨-,-,h⟩ | ⟨-,-,n,hn,h1,-⟩
 ·rcases h with ⟨hc,h,-⟩ | ⟨-,h,-⟩
  ·cases h
   rcases hp with ⟨-,i,j,-,hv⟩ | ⟨hc',-⟩
   ·exact fm_nm (pv_bad hv)
   ·exact absurd hc hc'
  ·cases h
 ·exact fm_star (s:=s) (a:=a) (by rw [← h])
 ·unfold nmF at h1
  by_cases q:a<n
  ·rw [if_pos q] at h1
   cases h1
   exact fm_pl (plV_in _)
  ·rw [if_neg q] at h1
   cases h1
theorem read_fm {s:ByteArray} {a e:Nat} {x:Stp} (ha:a<s.size) (h:IsRead s a (some x) e):fmS x=true:=by
 rcases h with ⟨-,n,hn,h,-⟩ | ⟨-,o',e',hb,h⟩ | ⟨-,h,-⟩
 ·unfold bpF at h
  by_cases q:0<n
  ·rw [if_pos q] at h
   cases h
   exact fm_nm (wd_bad (by omega) hn)
  ·rw [if_neg q] at h
   exact fm_star h.symm
 ·rcases h with ⟨-,h,-⟩ | ⟨-,-,h,-⟩
  ·cases h
  ·rw [← h] at hb
   exact bare_fm hb
 ·cases h
theorem rds_fm {s:ByteArray} {a:Nat} {p:List Stp} (h:Rds s a p):p.all fmS=true:=by
 induction h with
 | nil=>rfl
 | snoc h ha hx ih =>
  rw [List.all_append,ih]
  show (_ && true)=true
  rw [read_fm ha hx]
  rfl
end Go.Proofs.YtongedjlmohogaaGreatDoor
