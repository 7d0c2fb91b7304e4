/- The second engine: loops within contracts. -/
import Derived.Test.YtkjpbjgepnbibaaEvU
namespace Go.Proofs.Ytkjpbjgepnbibaa
open Go.RowKit
set_option maxRecDepth 100000
namespace Ev
section
variable {P : Program} {X Y : Type} {S : Sg X Y}
/-- What is asked where things are told anew, and what it must be. -/
def teL (st : SS) (ks fs : List Nat) (st' : SS) (p : Nat) := ((st'.s.map fun p => (st.s.lookup p.1).map norm, st'.s.all fun p => okB ks.length p.2, ks.map fun k => st.b[k]?.map normX, nodupN ks, st'.b.all (okX ks.length), fs.map fun k => st.m[k]?, ks.take p) : List (Option SV) × Bool × List (Option Bx) × Bool × Bool × List (Option Mf) × List Nat)
def teR (ks : List Nat) (st' : SS) (p : Nat) := ((st'.s.map fun p => some (norm (ren (kA ks) p.2)), true, st'.b.map fun x => some (normX (renX (kA ks) x)), true, true, st'.m.map some, List.range p) : List (Option SV) × Bool × List (Option Bx) × Bool × Bool × List (Option Mf) × List Nat)
theorem te_of {st st' : SS} {ks fs : List Nat} {p : Nat} (h : teL st ks fs st' p = teR ks st' p) (bs : List Blk) : Tell bs st ks fs st' ∧ ks.take p = List.range p := by
  unfold teL teR at h
  simp only [Prod.mk.injEq] at h
  obtain ⟨h1, h2, h3, h4, h5, h6, h7⟩ := h
  exact ⟨⟨h1, h2, ⟨h3, h4, h5⟩, h6⟩, h7⟩
theorem b0_len {n : Nat} {x : X} {bs0 : List Blk} {w0 : World} (hl : S.p ≤ bs0.length) : (Cs S n x bs0 w0).b0.length = S.p := by
  show (bs0.take S.p).length = S.p
  rw [List.length_take]; omega
theorem loopS {α : Type} {Q : Exit → Act → World → Prop} {c : Cfg} {n : Nat} {x : X} {bs0 : List Blk} {w0 : World} (Inv : α → Prop) (μ : α → Nat) (F : α → SS) (x0 : α) (ks fs : List Nat) (hm : P.follows .mixedOrders = true) (hI : Inv x0) (h : ((loopOf c).isSome, teL c.st ks fs (F x0) S.p) = (true, teR ks (F x0) S.p)) (hl : S.p ≤ bs0.length)
    (round : ∀ y, Inv y → ∀ I : Act → World → Prop, (∀ z bs a w, Inv z → μ z < μ y → At (Cs S n x bs0 w0) bs (F z) a w → I a w) → Runs P (Cs S n x bs0 w0) Q (go P n 9999 ⟨h0, co (lpB c) :: lp I :: lpR c, F y⟩)) : Runs P (Cs S n x bs0 w0) Q c := by
  simp only [Prod.mk.injEq] at h
  exact loop Inv μ F x0 hm hI h.1 ks fs (fun bs => (te_of h.2 bs).1) (fun b hb => by rw [hb, b0_len hl]; exact (te_of h.2 bs0).2) round
theorem againS {α : Type} {Q : Exit → Act → World → Prop} {c : Cfg} {n : Nat} {x : X} {bs0 : List Blk} {w0 : World} {Inv : α → Prop} {μ : α → Nat} {F : α → SS} {y : α} {I : Act → World → Prop} (hI : ∀ z bs a w, Inv z → μ z < μ y → At (Cs S n x bs0 w0) bs (F z) a w → I a w) (z : α) (ks fs : List Nat) (hz : Inv z) (hμ : μ z < μ y) (h1 : headI c = some I) (h : teL c.st ks fs (F z) S.p = teR ks (F z) S.p) (hl : S.p ≤ bs0.length) : Runs P (Cs S n x bs0 w0) Q c :=
  again I h1 fun bs a w A => hI z _ a w hz hμ (A.tell (te_of h bs).1 (by rw [b0_len hl]; exact (te_of h bs).2))
theorem cutS {α : Type} {Q : Exit → Act → World → Prop} {c : Cfg} {n : Nat} {x : X} {bs0 : List Blk} {w0 : World} {Inv : α → Prop} {F : α → SS} {I : Act → World → Prop} (hI : ∀ z bs a w, Inv z → At (Cs S n x bs0 w0) bs (F z) a w → I a w) (z : α) (ks fs : List Nat) (hz : Inv z) (h1 : headI c = some I) (h : teL c.st ks fs (F z) S.p = teR ks (F z) S.p) (hl : S.p ≤ bs0.length) : Runs P (Cs S n x bs0 w0) Q c :=
  again I h1 fun bs a w A => hI z _ a w hz (A.tell (te_of h bs).1 (by rw [b0_len hl]; exact (te_of h bs).2))
end
end Ev
end Go.Proofs.Ytkjpbjgepnbibaa
