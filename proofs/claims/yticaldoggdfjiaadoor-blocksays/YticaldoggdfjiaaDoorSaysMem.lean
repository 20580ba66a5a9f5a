
/- A record handed in as an argument: what value it is; a record that lies in a box; lists of bytes side by side. -/
import Derived.Test.YticaldoggdfjiaaDoorRecBytes
import Derived.Test.YticaldoggdfjiaaDoorFrame
namespace Go.Proofs.YticaldoggdfjiaaDoor
open Go.RowKit Go.ChangeShapes Go.WideShapes
set_option linter.unusedVariables false

theorem Tryd.cellsOf3 : Tryd.prog.cellsOf 3 = 1 := by kernel_rfl
theorem Tryd.cellsOf2 : Tryd.prog.cellsOf 2 = 1 := by kernel_rfl
theorem Tryd.cellsOf4 : Tryd.prog.cellsOf 4 = 1 := by kernel_rfl
theorem Tryd.cellsOf23 : Tryd.prog.cellsOf 23 = 10 := by kernel_rfl
theorem array10 {α : Type} {cs : Array α} (h : cs.size = 10) : ∃ c0 c1 c2 c3 c4 c5 c6 c7 c8 c9, cs = #[c0, c1, c2, c3, c4, c5, c6, c7, c8, c9] := by
  obtain ⟨l⟩ := cs
  match l, h with
  | [c0, c1, c2, c3, c4, c5, c6, c7, c8, c9], _ => exact ⟨c0, c1, c2, c3, c4, c5, c6, c7, c8, c9, rfl⟩
theorem fld {H : Type} {enc : TypeId × Value → H} {P : Program} {W : World} {base : Nat} {spare : Nat → Bool} {held : Bool} {n : Nat} {cs : List Value} {y : Option (DataW H × List MemPlace)} (t : TypeId) (off : Nat) (c : Value) (h : DataW.trod enc P W base spare held n t ((cs.drop off).take (P.cellsOf t)) = y) (hc : P.cellsOf t = 1) (e : (cs.drop off).take 1 = [c]) : DataW.trod enc P W base spare held n t [c] = y := by
  rw [hc, e] at h
  exact h
/-- A record that came in. -/
theorem open_rec {H : Type} {enc : TypeId × Value → H} {W : World} {base : Nat} {spare : Nat → Bool} {held : Bool} {rr : Reach} {b0 : Nat} {v : Value} {d : DataW H} {p : List MemPlace} (hv : Value.okWide Tryd.prog W rr b0 23 v) (h : DataW.Trod enc Tryd.prog W base spare held 23 v d p) : ∃ r : R, v = r.val := by
  obtain ⟨cs, rfl, hsz⟩ := okWide_struct Tryd.underlying23 hv
  obtain ⟨c0, c1, c2, c3, c4, c5, c6, c7, c8, c9, rfl⟩ := array10 (hsz.trans Tryd.cellsOf23)
  obtain ⟨fuel, hf⟩ := h
  obtain ⟨xs, n, _, _, _, hl, hx⟩ := DataW.trod_struct Tryd.underlying23 hf
  have hl10 : xs.length = 10 := hl
  match xs, hl10 with
  | [y0, y1, y2, y3, y4, y5, y6, y7, y8, y9], _ =>
    have k0 := hx 0 _ rfl
    have k1 := hx 1 _ rfl
    have k2 := hx 2 _ rfl
    have k3 := hx 3 _ rfl
    have k4 := hx 4 _ rfl
    have k5 := hx 5 _ rfl
    have k6 := hx 6 _ rfl
    have k7 := hx 7 _ rfl
    have k8 := hx 8 _ rfl
    have k9 := hx 9 _ rfl
    have h0 := fld 3 0 c0 k0 Tryd.cellsOf3 rfl
    have h1 := fld 3 1 c1 k1 Tryd.cellsOf3 rfl
    have h2 := fld 3 2 c2 k2 Tryd.cellsOf3 rfl
    have h3 := fld 3 3 c3 k3 Tryd.cellsOf3 rfl
    have h4 := fld 3 4 c4 k4 Tryd.cellsOf3 rfl
    have h5 := fld 3 5 c5 k5 Tryd.cellsOf3 rfl
    have h6 := fld 4 6 c6 k6 Tryd.cellsOf4 rfl
    have h7 := fld 4 7 c7 k7 Tryd.cellsOf4 rfl
    have h8 := fld 2 8 c8 k8 Tryd.cellsOf2 rfl
    have h9 := fld 2 9 c9 k9 Tryd.cellsOf2 rfl
    obtain ⟨n0, e0, _⟩ := DataW.trod_int Tryd.underlying3 h0
    obtain ⟨n1, e1, _⟩ := DataW.trod_int Tryd.underlying3 h1
    obtain ⟨n2, e2, _⟩ := DataW.trod_int Tryd.underlying3 h2
    obtain ⟨n3, e3, _⟩ := DataW.trod_int Tryd.underlying3 h3
    obtain ⟨n4, e4, _⟩ := DataW.trod_int Tryd.underlying3 h4
    obtain ⟨n5, e5, _⟩ := DataW.trod_int Tryd.underlying3 h5
    obtain ⟨n6, e6, _⟩ := DataW.trod_bool Tryd.underlying4 h6
    obtain ⟨n7, e7, _⟩ := DataW.trod_bool Tryd.underlying4 h7
    obtain ⟨n8, e8, _⟩ := DataW.trod_int Tryd.underlying2 h8
    obtain ⟨n9, e9, _⟩ := DataW.trod_int Tryd.underlying2 h9
    simp only [List.cons.injEq, and_true] at e0 e1 e2 e3 e4 e5 e6 e7 e8 e9
    subst e0 e1 e2 e3 e4 e5 e6 e7 e8 e9
    exact ⟨⟨n0, n1, n2, n3, n4, n5, n6, n7, n8, n9⟩, rfl⟩
end Go.Proofs.YticaldoggdfjiaaDoor
