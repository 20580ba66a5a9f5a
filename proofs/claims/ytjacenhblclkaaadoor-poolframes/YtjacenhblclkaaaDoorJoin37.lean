/- Lemmas and contracts that the law stands on, joined: WalSt. -/
import Derived.Test.YtjacenhblclkaaaDoorJoin35
import Derived.Test.YtjacenhblclkaaaDoorJoin36
/- A log, a list of records beside it and a source of numbers, all at once: what each call leaves of them. -/
namespace Go.Proofs.YtjacenhblclkaaaDoor
open Go.RowKit
set_option linter.unusedVariables false

/-- Some first records of a list of our own: a list of our own, in the same memory. -/
theorem OwnR.take {w : World} {B : Nat} {ao : Option Addr} {c : Nat} {ts : List R} (h : OwnR w B ao c ts) (m : Nat) (hm : m ≤ ts.length) : OwnR w B ao c (ts.take m) := by
  have hl : (ts.take m).length = m := by rw [List.length_take]; omega
  have hc : cellsOfRs (ts.take m) = (cellsOfRs ts).take (m * 10) := by
    have h1 := cellsOfRs_append (ts.take m) (ts.drop m)
    rw [List.take_append_drop] at h1
    have h2 : (cellsOfRs (ts.take m)).length = m * 10 := by rw [length_cellsOfRs, hl]
    rw [h1]
    exact (List.take_left' h2).symm
  refine ⟨⟨by rw [length_cellsOfRs], ?_⟩, by have := h.2; omega⟩
  rcases h.1.2 with ⟨h1, h2⟩ | ⟨g, cap, cur, h1, h2, h3, h4, h5, h6, h7⟩
  · have hm0 : m = 0 := by omega
    subst hm0
    simp only [Value.slice.injEq] at h1
    exact .inl ⟨by rw [hl, h1.1, h1.2.2], hl⟩
  · simp only [Value.slice.injEq] at h1
    refine .inr ⟨g, cap, cur, by rw [hl, h1.1, h1.2.2], h2, h3, by omega, h5, h6, ?_⟩
    rw [hl, hc, ← h7, List.take_take, Nat.min_eq_left (by omega)]
theorem ownBlock_len {ao : Option Addr} {n m c : Nat} : (Value.slice ao n c).ownBlock = (Value.slice ao m c).ownBlock := by cases ao <;> rfl
theorem Side.take {w0 w : World} {K : Nat → Prop} {ao : Option Addr} {c : Nat} {ts : List R} (h : Side w0 w K ao c ts) (m : Nat) (hm : m ≤ ts.length) : Side w0 w K ao c (ts.take m) :=
  ⟨h.own.take m hm, fun g hg => h.at_ g (by rw [← hg]; exact ownBlock_len), h.old, h.bel, h.err⟩
section
variable {w0 w w' : World} {K L : Nat → Prop} {a : Nat → Addr} {l d s : Nat} {lo : Option Addr} {len cap : Nat} {zs : List Int} {ns F N : Nat} {base ep : Int} {rs ts : List R} {D : Nat} {ao : Option Addr} {c : Nat} {vss : List (List (List Int))} {off : Bool} {f : Int}
end
end Go.Proofs.YtjacenhblclkaaaDoor
