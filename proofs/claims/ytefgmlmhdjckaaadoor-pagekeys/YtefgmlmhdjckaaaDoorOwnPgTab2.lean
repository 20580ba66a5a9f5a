
/- What a round of PageKeys leaves behind it. -/
import Derived.Test.YtefgmlmhdjckaaaDoorOwnPgTab
namespace Go.Proofs.YtefgmlmhdjckaaaDoor
open Go.RowKit
set_option linter.unusedVariables false

theorem row_cells {w : World} {lo : Option Addr} {len cap : Nat} {zs : List Int} (h : IsRow .i64 w lo len cap zs) : ∀ i, i < len → ∃ b off, lo = some ⟨b, off, none⟩ ∧ b < w.heap.size ∧ w.cell? ⟨b, off + i, none⟩ = some (.int .i64 (zs.getD i 0)) := by
  intro i hi
  rcases h with ⟨_, h2, _, _⟩ | ⟨a, rfl, h1, h2, h3, h4, h5⟩
  · omega
  · have hc := h4 i (by omega)
    obtain ⟨b, off, spot⟩ := a
    have hspot : spot = none := by
      have := World.cell?_spot (h4 0 (by omega))
      simpa [Addr.add] using this
    subst hspot
    rw [Addr.add_lit] at hc
    exact ⟨b, off, rfl, World.block_lt_of_cell? w _ hc, hc⟩
theorem KSt.stored {w : World} {P A B : Nat} {ao : Option Addr} {m c : Nat} {es : List (Int × Int)} (h : KSt w P A B ao m c es) (hP : P < A) (hA : A < B) {a3 : Option Addr} {c3 : Nat} (m3 : Nat) {fs : List (Int × Int)} (ho : OwnE w (B + 1) a3 c3 fs) : PBlk ((w.setCell ⟨P, 0, none⟩ (.int .i64 3)).setCell ⟨P, 1, none⟩ (.slice a3 m3 c3)) P 3 a3 m3 c3 ∧ OwnE ((w.setCell ⟨P, 0, none⟩ (.int .i64 3)).setCell ⟨P, 1, none⟩ (.slice a3 m3 c3)) (B + 1) a3 c3 fs ∧ Tab ((w.setCell ⟨P, 0, none⟩ (.int .i64 3)).setCell ⟨P, 1, none⟩ (.slice a3 m3 c3)) A B es :=
  ⟨h.page.put 3 a3 m3 c3, (ho.low (by omega) _ _).low (by omega) _ _, (h.tab.far (by omega) (by omega) _ _).far (by omega) (by omega) _ _⟩
theorem KSt.del {w : World} {P A B : Nat} {ao : Option Addr} {m c : Nat} {es : List (Int × Int)} (h : KSt w P A B ao m c es) (hP : P < A) (hA : A < B) {a3 : Option Addr} {m3 c3 : Nat} {k : Nat} (hk : k < 50) (ho : OwnE w (B + 1) a3 c3 (remE k es)) : KSt (((w.setCell ⟨P, 0, none⟩ (.int .i64 3)).setCell ⟨P, 1, none⟩ (.slice a3 m3 c3)).setCell ⟨A, k, none⟩ (.bool false)) P A B a3 m3 c3 (remE k es) := by
  obtain ⟨h1, h2, h3⟩ := h.stored hP hA m3 ho
  exact ⟨h1.far (by omega) _ _, h2.low (by omega) _ _, h3.del hk⟩
theorem KSt.put {w : World} {P A B : Nat} {ao : Option Addr} {m c : Nat} {es : List (Int × Int)} (h : KSt w P A B ao m c es) (hP : P < A) (hA : A < B) {a3 : Option Addr} {m3 c3 : Nat} {k : Nat} (hk : k < 50) (v : Int) (ho : OwnE w (B + 1) a3 c3 (insE k v es)) : KSt ((((w.setCell ⟨P, 0, none⟩ (.int .i64 3)).setCell ⟨P, 1, none⟩ (.slice a3 m3 c3)).setCell ⟨A, k, none⟩ (.bool true)).setCell ⟨B, k, none⟩ (.int .i64 v)) P A B a3 m3 c3 (insE k v es) := by
  obtain ⟨h1, h2, h3⟩ := h.stored hP hA m3 ho
  exact ⟨(h1.far (by omega) _ _).far (by omega) _ _, (h2.low (by omega) _ _).low (by omega) _ _, h3.put hk v⟩
theorem KOk.ok {es : List (Int × Int)} (h : KOk es) : okP 3 es = true :=
  (okP_iff 3 es).2 ⟨by omega, by omega, h.many, up_rise h.up fun e he => by have := (h.keys e he).1; omega, .inr (by omega)⟩
theorem KOk.fits {es : List (Int × Int)} (h : KOk es) : fitsE es := fun e he => (h.keys e he).2
theorem KOk.nil : KOk [] := ⟨List.Pairwise.nil, by simp, fun e he => by simp at he⟩
end Go.Proofs.YtefgmlmhdjckaaaDoor
