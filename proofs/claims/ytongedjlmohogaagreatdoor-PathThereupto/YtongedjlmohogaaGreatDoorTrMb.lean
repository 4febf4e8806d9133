import Derived.Test.YtongedjlmohogaaGreatDoorPack20
import Derived.Test.YtongedjlmohogaaGreatDoorPack14
namespace Go.Proofs.YtongedjlmohogaaGreatDoor
open Go.RowKit Go.Shelf
theorem IsMem.uniq {t:Vt} {nm:ByteArray} {u v:Vt} {B C:Bool} (h:IsMem t nm u B) (h':IsMem t nm v C):u=v∧B=C:=by
 rcases h with ⟨rfl,a1,a2,i,a3,a4⟩ | ⟨rfl,rfl,a⟩ <;> rcases h' with ⟨rfl,b1,b2,j,b3,b4⟩ | ⟨rfl,rfl,b⟩
 ·have:=a3.uniq b3
  have e:i=j:=by omega
  subst e
  rw [a4] at b4
  injection b4 with b4
  exact ⟨b4,rfl⟩
 ·exfalso
  rcases a3 with ⟨h,_⟩ | ⟨q,_,h2,_⟩
  ·omega
  ·exact b ⟨a1,a2,q,h2⟩
 ·exfalso
  rcases b3 with ⟨h,_⟩ | ⟨q,_,h2,_⟩
  ·omega
  ·exact a ⟨b1,b2,q,h2⟩
 ·exact ⟨rfl,rfl⟩
theorem ValAt.shape {w:World} {u:Vt} {x:Value} (h:ValAt w u x):∃ k b r t ko N kc vo M vc,x = .agg #[.int .i64 k,.bool b,.string r,.string t,.slice ko N kc,.slice vo M vc]:=by
 cases h with
 | mk k b r t ks vs ko kc vo vc X hw hz hk hr hv=>exact ⟨_,_,_,_,_,_,_,_,_,_,rfl⟩
end Go.Proofs.YtongedjlmohogaaGreatDoor
