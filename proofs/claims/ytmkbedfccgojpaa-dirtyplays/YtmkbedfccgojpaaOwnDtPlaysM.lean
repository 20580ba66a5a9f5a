
/- For the statement DirtyPlays: a list of pairs that came in; both tables side by side. -/
import Derived.Test.YtmkbedfccgojpaaJoin16
import Derived.Test.YtmkbedfccgojpaaJoin17
import Derived.Test.YtmkbedfccgojpaaJoin6
import Derived.Deep.Slices
import Derived.ChangeArms
namespace Go.Proofs.Ytmkbedfccgojpaa
open Go.ChangeShapes Go.WideShapes Go.RowKit
set_option linter.unusedVariables false

/-- A slice of pairs that came in. -/
def PairsIn (w : World) (a : Option Addr) (len : Nat) (f g : Nat → Int) : Prop :=
  (0 < len → ∃ b off, a = some ⟨b, off, none⟩ ∧ b < w.heap.size ∧ ∀ i, i < len → w.cell? ⟨b, off + i * 2, none⟩ = some (.int .i64 (f i)) ∧ w.cell? ⟨b, off + i * 2 + 1, none⟩ = some (.int .i64 (g i))) ∧
  ∀ i, i < len → (Lit.int .i64 (f i)).wf = true ∧ (Lit.int .i64 (g i)).wf = true
theorem open_pairs {H : Type} {enc : TypeId × Value → H} {W : World} {a : Option Addr} {len cap : Nat} {d : DataW H} {p : List MemPlace} {base : Nat} {spare : Nat → Bool} {held : Bool} (h0 : ∃ n, DataW.trod enc Try.prog W base spare held n 22 [Value.slice a len cap] = some (d, p)) : ∃ f g, PairsIn W a len f g := by
  obtain ⟨fuel, hf⟩ := h0
  rcases Go.Deep.open_slice Try.underlying22 hf with ⟨hcs, _⟩ | ⟨x, l, c, m, n, D, Pl, hcs, hb, hl, hm, hmm, hx, hel⟩
  · simp only [List.cons.injEq, Value.slice.injEq, and_true] at hcs
    obtain ⟨rfl, rfl, rfl⟩ := hcs
    exact ⟨fun _ => 0, fun _ => 0, fun h => by omega, fun i hi => by omega⟩
  · simp only [List.cons.injEq, Value.slice.injEq, and_true] at hcs
    obtain ⟨rfl, rfl, rfl⟩ := hcs
    have hce : Try.prog.cellsOf 31 = 2 := by kernel_rfl
    rw [hce] at hel
    have hlm : len ≤ m := by rw [hmm]; split <;> omega
    have each : ∀ i, i < len → ∃ u v : Int, W.cell? (x.add (i * 2)) = some (.int .i64 u) ∧ W.cell? (x.add (i * 2 + 1)) = some (.int .i64 v) ∧ (Lit.int .i64 u).wf = true ∧ (Lit.int .i64 v).wf = true := by
      intro i hi
      obtain ⟨cs', h1, h2⟩ := hel i (by omega)
      obtain ⟨_, hlen, hcell⟩ := World.cells?_some h1
      obtain ⟨xs, k, hk, hxy, _, hxl, hpt⟩ := DataW.trod_array Try.underlying31 h2
      have hci : Try.prog.cellsOf 3 = 1 := by kernel_rfl
      match xs, hxl, cs', hlen with
      | [y0, y1], _, [v0, v1], _ =>
        have g0 := hpt 0 (by omega)
        have g1 := hpt 1 (by omega)
        simp [hci] at g0 g1
        obtain ⟨u, e0, _, w0⟩ := DataW.trod_int Try.underlying3 g0
        obtain ⟨v, e1, _, w1⟩ := DataW.trod_int Try.underlying3 g1
        simp only [List.cons.injEq, and_true] at e0 e1
        subst e0
        subst e1
        have d0 := hcell 0 (by omega)
        have d1 := hcell 1 (by omega)
        rw [Go.Deep.add_add] at d0 d1
        exact ⟨u, v, by simpa using d0, by simpa using d1, w0, w1⟩
    obtain ⟨F, hF⟩ := Go.Deep.choose_lt (α := Int × Int) (p := fun i q => W.cell? (x.add (i * 2)) = some (.int .i64 q.1) ∧ W.cell? (x.add (i * 2 + 1)) = some (.int .i64 q.2) ∧ (Lit.int .i64 q.1).wf = true ∧ (Lit.int .i64 q.2).wf = true) (fun i hi => by
      obtain ⟨u, v, h⟩ := each i hi
      exact ⟨(u, v), h⟩)
    refine ⟨fun i => (F i).1, fun i => (F i).2, fun hp => ?_, fun i hi => ⟨(hF i hi).2.2.1, (hF i hi).2.2.2⟩⟩
    obtain ⟨b, off, spot⟩ := x
    have hspot : spot = none := by
      have hc := (hF 0 (by omega)).1
      simpa [Addr.add] using World.cell?_spot hc
    subst hspot
    refine ⟨b, off, rfl, World.block_lt_of_cell? W _ (hF 0 (by omega)).1, fun i hi => ?_⟩
    have h1 := hF i hi
    rw [Addr.add_lit, Addr.add_lit] at h1
    exact ⟨h1.1, by rw [Nat.add_assoc]; exact h1.2.1⟩
theorem tab_rtab {w : World} {T o N X o' B : Nat} {mb : Option Nat} {ao : Option Addr} {c : Nat} {es fs : List (Int × Int)} (h : TabAt w T o mb N es) (hr : RTab w X o' B ao c fs) {b : Nat} (hb : mb = some b) : b ≠ X := by
  rintro rfl
  obtain ⟨cs, ty, h1, _⟩ := hr.row
  obtain ⟨e, clock, h3, _⟩ := h.own _ hb
  rw [h1] at h3
  simp at h3
/-- The real table was turned: the document's stays. -/
theorem RTab.but {w w' : World} {T o N X o' B : Nat} {mb : Option Nat} {ao : Option Addr} {c : Nat} {es fs : List (Int × Int)} (hr : RTab w X o' B ao c fs) (h : TabAt w T o mb N es) (hb : But2 T mb w w') (hTX : T < X) : RTab w' X o' B ao c fs := by
  have hX : w'.heap[X]? = w.heap[X]? := hb.block X hr.ltw (by omega) (fun e => tab_rtab h hr e.symm rfl)
  obtain ⟨cs, ty, h1, h2⟩ := hr.row
  refine ⟨⟨cs, ty, hX.trans h1, h2⟩, ?_, hr.lt, hr.up⟩
  obtain ⟨⟨h3, h4⟩, h5⟩ := hr.own
  refine ⟨⟨h3, ?_⟩, h5⟩
  rcases h4 with h4 | ⟨g, cap, cur, hv, hg, hh, r⟩
  · exact .inl h4
  · refine .inr ⟨g, cap, cur, hv, hg, ?_, r⟩
    rw [hb.block g (lt_of_block hh) (by have := hr.lt; omega) (fun e => ?_)]
    · exact hh
    · obtain ⟨es', clock, h6, _⟩ := h.own g e.symm
      rw [hh] at h6
      simp at h6
/-- The document's table was turned: the real one stays. -/
theorem TabAt.but {w w' : World} {T o N X o' B : Nat} {mb : Option Nat} {ao : Option Addr} {c : Nat} {es fs : List (Int × Int)} (h : TabAt w T o mb N es) (hr : RTab w X o' B ao c fs) (hb : But2 X none w w') (hTX : T < X) : TabAt w' T o mb N es :=
  h.of_blocks (hb.block T h.lt (by omega) (by simp)) fun b e => hb.block b (h.own b e).lt (tab_rtab h hr e) (by simp)
end Go.Proofs.Ytmkbedfccgojpaa
