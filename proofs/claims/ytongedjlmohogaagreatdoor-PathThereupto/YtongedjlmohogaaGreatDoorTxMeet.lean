import Derived.Test.YtongedjlmohogaaGreatDoorPack7
namespace Go.Proofs.YtongedjlmohogaaGreatDoor
open Go.RowKit Go.Shelf
theorem unesc_len:∀ (n:Nat) (l:List Nat),l.length≤n→(∀ x ∈ l,x<256)→∀ o,unescL l=some o→o.length≤l.length∧∀ x ∈ o,x<256:=by
 intro n
 induction n with
 | zero =>
  intro l hn _ o ho
  have e:l=[]:=List.eq_nil_of_length_eq_zero (by omega)
  subst e
  rw [unescL_nil] at ho
  cases ho
  exact ⟨Nat.le_refl _,fun x hx=>by simp at hx⟩
 | succ n ih =>
  intro l hn hb o ho
  by_cases hl:l=[]
  ·subst hl
   rw [unescL_nil] at ho
   cases ho
   exact ⟨Nat.le_refl _,fun x hx=>by simp at hx⟩
  ·cases hs:stepL l with
   | none=>rw [unescL_none hl hs] at ho;cases ho
   | some p =>
    obtain ⟨k,o1⟩:=p
    obtain ⟨k1,k2,k3,k4⟩:=stepL_some hl hb hs
    rw [unescL_some hl hb hs] at ho
    cases hr:unescL (l.drop k) with
    | none=>rw [hr] at ho;cases ho
    | some o2 =>
     rw [hr] at ho
     cases ho
     obtain ⟨g1,g2⟩:=ih (l.drop k) (by rw [List.length_drop];omega) (fun x hx=>hb x (List.mem_of_mem_drop hx)) o2 hr
     rw [List.length_drop] at g1
     refine ⟨by rw [List.length_append];omega,fun x hx=>?_⟩
     rcases List.mem_append.1 hx with hx | hx
     ·exact k4 x hx
     ·exact g2 x hx
theorem un_zero {s T:ByteArray} (h:unS s=(T,0)):badOf s = -1∧okU (byts s)∧∃ o,unescL (byts s)=some o∧T=mkS o∧byts T=o:=by
 unfold unS at h
 by_cases hb:0≤badOf s
 ·rw [if_pos hb] at h
  simp at h
 ·rw [if_neg hb] at h
  cases hu:unescL (byts s) with
  | none=>rw [hu] at h;simp at h
  | some o =>
   rw [hu] at h
   simp only [Prod.mk.injEq,and_true] at h
   have ho:=(unesc_len _ _ (Nat.le_refl _) (byts_lt s) o hu).2
   exact ⟨ok_bad (bad_ok hb),bad_ok hb,o,rfl,h.symm,by rw [← h];exact byts_mkS ho⟩
theorem right_facts {s T:ByteArray} (h:unS s=(T,0)):badOf T = -1∧T.size≤s.size∧IsEnd (s++⟨#[34]⟩) 0 (s.size:Nat) 0:=by
 obtain ⟨h0,h1,o,h2,h3,h4⟩:=un_zero h
 obtain ⟨g1,g2⟩:=unesc_len _ _ (Nat.le_refl _) (byts_lt s) o h2
 refine ⟨ok_bad (by rw [h4];exact unesc_ok (byts_lt s) h1 h2),?_,?_⟩
 ·rw [← byts_length,h4,← byts_length]
  exact g1
 ·have:=end_right (t:=s++⟨#[34]⟩) (a:=byts s) (b:=[]) (by rw [byts_append];rfl) (byts_lt s) h2
  rw [byts_length] at this
  exact this
end Go.Proofs.YtongedjlmohogaaGreatDoor
