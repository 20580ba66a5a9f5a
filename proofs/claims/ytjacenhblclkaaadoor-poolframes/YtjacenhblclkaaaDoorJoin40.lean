/- Lemmas and contracts that the law stands on, joined: PgUni. -/
import Derived.Test.YtjacenhblclkaaaDoorJoin39
import Derived.Test.YtjacenhblclkaaaDoorJoin5
import Derived.Test.YtjacenhblclkaaaDoorJoin18
/- The answers of page.Bytes, page.Read and of the document's own functions, told alike: what is the same of both. -/
namespace Go.Proofs.YtjacenhblclkaaaDoor
open Go.RowKit
set_option linter.unusedVariables false

theorem Row.pstep {w w' : World} {ao : Option Addr} {xs : List Int} (h : Row w ao xs) (hb : Below w.heap.size w w') : Row w' ao xs := h.below hb (Nat.le_refl _)
/-- What a list of bytes is as a page: its number, its entries, the error's number. -/
def pansB (xs : List Int) : Bool := decide (xs.length = 256) && isPage xs
def pansL (xs : List Int) : Int := if pansB xs then lsnOf xs else 0
def pansE (xs : List Int) : List (Int × Int) := if pansB xs then entsOf xs else []
def pansC (xs : List Int) : Int := if xs.length ≠ 256 then 103 else if isPage xs then 0 else 107
theorem pans_cases (xs : List Int) : (xs.length ≠ 256 ∧ pansL xs = 0 ∧ pansE xs = [] ∧ pansC xs = 103) ∨ (xs.length = 256 ∧ isPage xs = true ∧ pansL xs = lsnOf xs ∧ pansE xs = entsOf xs ∧ pansC xs = 0) ∨ (xs.length = 256 ∧ isPage xs = false ∧ pansL xs = 0 ∧ pansE xs = [] ∧ pansC xs = 107) := by
  by_cases hl : xs.length = 256
  · cases hb : isPage xs with
    | true => exact .inr (.inl ⟨hl, rfl, by simp [pansL, pansB, hl, hb], by simp [pansE, pansB, hl, hb], by simp [pansC, hl, hb]⟩)
    | false => exact .inr (.inr ⟨hl, rfl, by simp [pansL, pansB, hb], by simp [pansE, pansB, hb], by simp [pansC, hl, hb]⟩)
  · exact .inl ⟨hl, by simp [pansL, pansB, hl], by simp [pansE, pansB, hl], by simp [pansC, hl]⟩
/-- The errors that package page names. -/
structure PgErrs (w : World) (x y z : Addr) : Prop where
  range : w.cell? ⟨0, 0, none⟩ = some (errV x)
  short : w.cell? ⟨3, 0, none⟩ = some (errV y)
  page : w.cell? ⟨4, 0, none⟩ = some (errV z)
theorem PgErrs.step {w w' : World} {x y z : Addr} (h : PgErrs w x y z) (hb : Below w.heap.size w w') : PgErrs w' x y z :=
  ⟨(hb.cell (World.block_lt_of_cell? w _ h.range)).trans h.range, (hb.cell (World.block_lt_of_cell? w _ h.short)).trans h.short, (hb.cell (World.block_lt_of_cell? w _ h.page)).trans h.page⟩
theorem pgErrs_of {w : World} {a : Nat → Addr} {ks : List Nat} (h : ErrsOf w ks a) (h1 : 1 ∈ ks) (h2 : 2 ∈ ks) (h6 : 6 ∈ ks) : PgErrs w (a 1) (a 2) (a 6) := ⟨h.cell 1 h1, h.cell 2 h2, h.cell 6 h6⟩
theorem pread_uni {ao : Option Addr} {n cap : Nat} {xs : List Int} {w : World} {a : Nat → Addr} (hE : PgErrs w (a 1) (a 2) (a 6)) (h : Row w ao xs) (hn : xs.length = n) :
    Calls Tryd.prog 16 #[.slice ao n cap] w fun r w' => ∃ mo mk mc fv, r = .returned (.tuple #[pageV (pansL xs) mo mk mc, fv]) ∧ (pansE xs).length = mk ∧ EntRow w' mo (pansE xs) ∧ ErrCode a fv (pansC xs) ∧ Below w.heap.size w w' := by
  rcases pans_cases xs with ⟨h1, h2, h3, h4⟩ | ⟨h1, hi, h2, h3, h4⟩ | ⟨h1, hi, h2, h3, h4⟩
  · rw [h2, h3, h4]
    exact (pread_short ao n cap w hE.short (by omega)).mono fun r w' hh => ⟨none, 0, 0, _, hh.1, rfl, entRow_nil _ _, .inr ⟨2, by omega, rfl, by omega⟩, hh.2⟩
  · rw [h2, h3, h4]
    rw [h1] at hn
    subst hn
    refine (pread_ok ao cap xs w h hE.range h1 hi).mono ?_
    rintro r w' ⟨mo, mc, rfl, hown, hb⟩
    exact ⟨mo, _, mc, _, rfl, length_entsUp _ _, hown.row, .inl ⟨rfl, rfl⟩, hb⟩
  · rw [h2, h3, h4]
    rw [h1] at hn
    subst hn
    exact (pread_bad ao cap xs w h hE.range hE.page h1 hi).mono fun r w' hh => ⟨none, 0, 0, _, hh.1, rfl, entRow_nil _ _, .inr ⟨6, by omega, rfl, by omega⟩, hh.2⟩
/-- A page's bytes, or none; the error's number. -/
def pbB (lsn : Int) (es : List (Int × Int)) : List Int := if okP lsn es then pageB lsn es else []
def pbC (lsn : Int) (es : List (Int × Int)) : Int := if okP lsn es then 0 else 102
theorem pb_uni {lsn : Int} {ao : Option Addr} {n c : Nat} {es : List (Int × Int)} {w : World} {a : Nat → Addr} (hE : PgErrs w (a 1) (a 2) (a 6)) (h : EntRow w ao es) (hn : es.length = n) :
    Calls Tryd.prog 44 #[pageV lsn ao n c] w fun r w' => ∃ xo xn xc fv, r = .returned (.tuple #[.slice xo xn xc, fv]) ∧ (pbB lsn es).length = xn ∧ Row w' xo (pbB lsn es) ∧ ErrCode a fv (pbC lsn es) ∧ Below w.heap.size w w' := by
  cases hok : okP lsn es with
  | true =>
    have h1 : pbB lsn es = pageB lsn es := by unfold pbB; rw [hok]; rfl
    have h2 : pbC lsn es = 0 := by unfold pbC; rw [hok]; rfl
    rw [h1, h2]
    refine (pb_ok lsn ao n c es w _ hE.range h hn hok).mono ?_
    rintro r w' ⟨g, rfl, _, hown, hb⟩
    exact ⟨_, 256, 256, _, rfl, length_pageB _ _, hown.row, .inl ⟨rfl, rfl⟩, hb⟩
  | false =>
    have h1 : pbB lsn es = [] := by unfold pbB; rw [hok]; rfl
    have h2 : pbC lsn es = 102 := by unfold pbC; rw [hok]; rfl
    rw [h1, h2]
    refine (pb_bad lsn ao n c es w _ hE.range h hn hok).mono ?_
    rintro r w' ⟨rfl, hb⟩
    exact ⟨none, 0, 0, _, rfl, rfl, row_nil _, .inr ⟨1, by omega, rfl, by omega⟩, hb⟩
theorem pc_uni {lsn : Int} {ao : Option Addr} {n c : Nat} {es : List (Int × Int)} {w : World} {a : Nat → Addr} (hE : PgErrs w (a 1) (a 2) (a 6)) (h : EntRow w ao es) (hn : es.length = n) :
    Calls Tryd.prog 38 #[pageV lsn ao n c] w fun r w' => ∃ fv, r = .returned fv ∧ ErrCode a fv (pbC lsn es) ∧ Below w.heap.size w w' := by
  refine (pcheck_any lsn ao n c es w _ hE.range h hn).mono ?_
  rintro r w' ⟨rfl, hb⟩
  refine ⟨_, rfl, ?_, hb⟩
  unfold checkPV pbC
  cases okP lsn es
  · exact .inr ⟨1, by omega, rfl, by decide⟩
  · exact .inl ⟨rfl, rfl⟩
end Go.Proofs.YtjacenhblclkaaaDoor
