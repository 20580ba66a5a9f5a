
/- A page handed in as an argument: what value it is, and how its entries lie. -/
import Derived.Test.YtdijgpkcolpfoaaDoorJoin10
import Derived.Test.YtdijgpkcolpfoaaDoorJoin8
import Derived.Deep.SlicePairs
namespace Go.Proofs.YtdijgpkcolpfoaaDoor
open Go.RowKit Go.ChangeShapes Go.WideShapes Go.Deep
set_option linter.unusedVariables false

theorem Tryd.ocells3 : Tryd.prog.cellsOf 3 = 1 := by kernel_rfl
theorem Tryd.ocells2 : Tryd.prog.cellsOf 2 = 1 := by kernel_rfl
theorem Tryd.ocells24 : Tryd.prog.cellsOf 24 = 2 := by kernel_rfl
theorem Tryd.ocells22 : Tryd.prog.cellsOf 22 = 1 := by kernel_rfl
theorem Tryd.ocells65 : Tryd.prog.cellsOf 65 = 2 := by kernel_rfl
theorem array2 {α : Type} {cs : Array α} (h : cs.size = 2) : ∃ c0 c1, cs = #[c0, c1] := by
  obtain ⟨l⟩ := cs
  match l, h with
  | [c0, c1], _ => exact ⟨c0, c1, rfl⟩
theorem pfld {H : Type} {enc : TypeId × Value → H} {P : Program} {W : World} {base : Nat} {spare : Nat → Bool} {held : Bool} {n : Nat} {cs : List Value} {y : Option (DataW H × List MemPlace)} (t : TypeId) (off : Nat) (c : Value) (h : DataW.trod enc P W base spare held n t ((cs.drop off).take (P.cellsOf t)) = y) (hc : P.cellsOf t = 1) (e : (cs.drop off).take 1 = [c]) : DataW.trod enc P W base spare held n t [c] = y := by
  rw [hc, e] at h
  exact h
set_option maxRecDepth 100000 in
/-- A page that came in. -/
theorem open_page {H : Type} {enc : TypeId × Value → H} {W : World} {rr : Reach} {b0 : Nat} {v : Value} {d : DataW H} {p : List MemPlace} (hv : Value.okWide Tryd.prog W rr b0 24 v) (h : DataW.Trod enc Tryd.prog W 0 (fun _ => true) true 24 v d p) :
    ∃ lsn ao n c, v = pageV lsn ao n c ∧ (Lit.int .i64 lsn).wf = true ∧ (n ≤ 1000 → ∃ es, es.length = n ∧ EntRow W ao es) := by
  obtain ⟨cs, rfl, hsz⟩ := okWide_struct Tryd.underlying24 hv
  obtain ⟨c0, c1, rfl⟩ := array2 (hsz.trans Tryd.ocells24)
  obtain ⟨fuel, hf⟩ := h
  obtain ⟨y0, y1, k, _, _, t0, t1⟩ := trod_struct2 Tryd.underlying24 hf
  have u0 := pfld 3 0 c0 t0 Tryd.ocells3 rfl
  have u1 := pfld 22 1 c1 t1 Tryd.ocells22 rfl
  obtain ⟨lsn, hc, _, hw⟩ := DataW.trod_int Tryd.underlying3 u0
  simp only [List.cons.injEq, and_true] at hc
  subst hc
  rcases open_slice_pairs Tryd.underlying22 Tryd.underlying65 Tryd.ocells65 rfl rfl Tryd.ocells3 Tryd.ocells2 u1 with ⟨hc, _⟩ | ⟨a, len, cap, m, n, V0, V1, D0, D1, P0, P1, hc, _, hl, hm, hmm, _, hx⟩
  · simp only [List.cons.injEq, and_true] at hc
    subst hc
    exact ⟨lsn, none, 0, 0, rfl, hw, fun _ => ⟨[], rfl, entRow_nil _ _⟩⟩
  · simp only [List.cons.injEq, and_true] at hc
    subst hc
    refine ⟨lsn, some a, len, cap, rfl, hw, fun hn => ?_⟩
    have hlm : len ≤ m := by rw [hmm]; split <;> omega
    have each : ∀ i, i < m → ∃ q : Int × Int, W.cell? (a.add (i * 2)) = some (.int .i64 q.1) ∧ W.cell? (a.add (i * 2 + 1)) = some (.int .i64 q.2) := by
      intro i hi
      obtain ⟨h0, h1, g0, g1⟩ := hx i hi
      obtain ⟨x, e0, _⟩ := DataW.trod_int Tryd.underlying3 g0
      obtain ⟨y, e1, _⟩ := DataW.trod_int Tryd.underlying2 g1
      simp only [List.cons.injEq, and_true] at e0 e1
      rw [e0] at h0
      rw [e1] at h1
      exact ⟨(x, y), h0, h1⟩
    obtain ⟨q, hq⟩ := choose_lt each
    refine ⟨(List.range len).map q, by simp, by simp; omega, fun hp => ?_⟩
    have hp : 0 < len := by simpa using hp
    obtain ⟨b, off, spot⟩ := a
    have hspot : spot = none := by
      have hc := (hq 0 (by omega)).1
      simpa [Addr.add] using World.cell?_spot hc
    subst hspot
    have hb : b < W.heap.size := World.block_lt_of_cell? W _ (hq 0 (by omega)).1
    refine ⟨b, off, rfl, hb, fun i e hi => ?_⟩
    obtain ⟨hil, he⟩ := List.getElem?_eq_some_iff.1 hi
    have hil : i < len := by simpa using hil
    have he : e = q i := by rw [← he]; simp
    subst he
    have h1 := hq i (by omega)
    rw [Addr.add_lit, Addr.add_lit] at h1
    exact ⟨h1.1, by rw [Nat.add_assoc]; exact h1.2⟩
end Go.Proofs.YtdijgpkcolpfoaaDoor
