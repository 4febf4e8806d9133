import Derived.Test.YtongedjlmohogaaGreatDoorPzA
namespace Go.Proofs.YtongedjlmohogaaGreatDoor
open Go.RowKit Go.Shelf
theorem IsWr.uniq {s:Stp} {T T':ByteArray} (h:IsWr s T) (h':IsWr s T'):T=T':=by
 rcases h with ⟨k,n,hn,h⟩ | ⟨k,rfl⟩ | ⟨k,rfl⟩ <;> rcases h' with ⟨k',n',hn',h'⟩ | ⟨k',rfl⟩ | ⟨k',rfl⟩
 ·obtain rfl:=hn.uniq hn'
  rcases h with ⟨c,rfl⟩ | ⟨c,rfl⟩ <;> rcases h' with ⟨c',rfl⟩ | ⟨c',rfl⟩
  ·rfl
  ·exact absurd c c'
  ·exact absurd c' c
  ·rfl
 ·omega
 ·exact absurd k k'.1
 ·omega
 ·rfl
 ·exact absurd k k'.2
 ·exact absurd k' k.1
 ·exact absurd k' k.2
 ·rfl
theorem Wrs.uniq {p:List Stp} {l:List UInt8} (h:Wrs p l):∀ {q:List Stp} {l':List UInt8},Wrs q l'→p=q→l=l':=by
 induction h with
 | nil =>
  intro q l' h' e
  cases h' with
  | nil=>rfl
  | snoc _ _=>simp at e
 | snoc h hT ih =>
  intro q l' h' e
  cases h' with
  | nil=>simp at e
  | snoc h' hT' =>
   obtain ⟨e1,e2⟩:=List.append_inj' e rfl
   cases e2
   rw [ih h' e1,hT.uniq hT']
theorem wrsW:Wrs stpW [46,97,91,49,93,46,42,91,34,99,32,100,34,93]:=by
 have h1:IsWr ⟨1,⟨#[97]⟩,0⟩ ⟨#[46,97]⟩:=.inl ⟨rfl,1,⟨by decide,fun j hj=>by
  obtain rfl:j=0:=by omega
  decide +kernel,fun h=>absurd h (by decide)⟩,.inl ⟨⟨by decide,by decide⟩,by decide +kernel⟩⟩
 have h2:IsWr ⟨2,⟨#[]⟩,1⟩ ⟨#[91,49,93]⟩:=.inr (.inl ⟨rfl,by decide +kernel⟩)
 have h3:IsWr ⟨3,⟨#[]⟩,0⟩ ⟨#[46,42]⟩:=.inr (.inr ⟨⟨by decide,by decide⟩,rfl⟩)
 have h4:IsWr ⟨1,⟨#[99,32,100]⟩,0⟩ ⟨#[91,34,99,32,100,34,93]⟩:=.inl ⟨rfl,1,⟨by decide,fun j hj=>by
  obtain rfl:j=0:=by omega
  decide +kernel,fun _=>by decide +kernel⟩,.inr ⟨fun h=>absurd h.2 (by decide),by decide +kernel⟩⟩
 exact .snoc (p:=[_,_,_]) (.snoc (p:=[_,_]) (.snoc (p:=[_]) (.snoc (p:=[]) .nil h1) h2) h3) h4
set_option maxRecDepth 10000 in
theorem printW_calls (ao:Option Addr) (cap:Nat) (w:World) (hk:Hid (StepsAt w ao stpW)) (hT:Hid (TabU w)) (hPw:Hid (PowT w)) :
  Calls Tryz.prog 13 #[.slice ao 4 cap] w fun e w'=>e = .returned (.tuple #[.string pthW,.int .i64 0])∧Below w.heap.size w w':=by
 refine Calls.mono (print22_calls stpW ao 4 cap (hid rfl) (by decide) fmW4 (hid (by
  intro s hs
  simp only [stpW,List.mem_cons,List.not_mem_nil,or_false] at hs
  rcases hs with rfl | rfl | rfl | rfl <;> exact ⟨by decide,by decide,by decide⟩)) w hk hT hPw) ?_
 rintro e w' ⟨⟨l,rfl,h⟩,b⟩
 rw [h.uniq wrsW rfl]
 exact ⟨rfl,b⟩
end Go.Proofs.YtongedjlmohogaaGreatDoor
