
/- What the listed variables of package api hold when a call begins: errors, each in memory of its own. -/
import Derived.Test.YtedmgdiimfenaaaDoorSeen
import Derived.Test.YtedmgdiimfenaaaDoorTie
import Derived.Test.YtedmgdiimfenaaaDoorCards
import Derived.ProofKit
import Derived.LaidMore
import Derived.OpenShut
import Derived.ShutString
import Derived.ChangeOld
import Derived.Below
import Derived.Stop.Joined
import Derived.SevenTiedAt
namespace Go.Proofs.YtedmgdiimfenaaaDoor
open Go.RowKit
set_option linter.unusedVariables false

theorem Tryd.name79 : Tryd.prog.typeName? 3 79 = some "*errors.errorString" := by kernel_rfl
theorem Tryd.cells96 : Tryd.prog.cellsOf 96 = 1 := by kernel_rfl
theorem Tryd.cells9 : Tryd.prog.cellsOf 9 = 1 := by kernel_rfl
theorem Tryd.star : "*" ++ "errors.errorString" = "*errors.errorString" := by decide
theorem Tryd.only79 (u : TypeId) (h : Tryd.prog.typeName? 3 u = some "*errors.errorString") : u = 79 :=
  typeName_ptr_named (nm := "errors.errorString") (by rw [Tryd.star]; kernel_rfl) (by kernel_rfl) (by decide) u (by rw [Tryd.star]; exact h)

/-- A list of errors, the variables numbered from k on. -/
def sentsB (P : Program) : Nat → List (String × DataW Unit) → Bool
  | _, [] => true
  | k, (n, d) :: r => (match d with | .iface nm (.ptr (.agg [.lit (.string _)])) => nm == "*errors.errorString" | _ => false) && decide (P.globalNamed n = some k) && decide ((P.globals[k]?).map (·.type) = some 30) && sentsB P (k + 1) r
theorem sent_shape {d : DataW Unit} (h : (match d with | .iface nm (.ptr (.agg [.lit (.string _)])) => nm == "*errors.errorString" | _ => false) = true) : ∃ text, d = .iface "*errors.errorString" (.ptr (.agg [.lit (.string text)])) := by
  split at h
  · rename_i nm text
    exact ⟨text, by rw [eq_of_beq h]⟩
  · simp at h
theorem sents_of {W : World} : ∀ (l : List (String × DataW Unit)) (k : Nat) (ps : List MemPlace), sentsB Tryd.prog k l = true → DataW.LaidVars Tryd.prog W l ps →
    (∀ b off, MemPlace.cell b off ∈ ps → (∃ c t, W.heap[b]? = some (.cells c t (0, 0))) ∧ ∀ u v, W.cell? ⟨b, off, none⟩ = some (.iface u v) → Value.okWide Tryd.prog W .any 0 u v) →
    ∃ xas : List Addr, xas.length = l.length ∧ (∀ (i : Nat) (x : Addr), xas[i]? = some x → W.cell? ⟨k + i, 0, none⟩ = some (errV x) ∧ (∃ c t, W.heap[x.block]? = some (.cells c t (0, 0))) ∧ MemPlace.cell x.block x.off ∈ ps) ∧ (ps.Nodup → xas.Nodup) := by
  intro l
  induction l with
  | nil => intro k ps _ _ _; exact ⟨[], rfl, fun i x h => by simp at h, fun _ => List.nodup_nil⟩
  | cons e r ih =>
    obtain ⟨n, d⟩ := e
    intro k ps hs hl hrows
    simp only [sentsB, Bool.and_eq_true, decide_eq_true_eq] at hs
    obtain ⟨⟨⟨h1, h2⟩, h3⟩, h4⟩ := hs
    obtain ⟨text, rfl⟩ := sent_shape h1
    obtain ⟨g, t, cs, fuel, p, q, hg, ht, hv, hd, hq, rfl⟩ := hl
    obtain rfl := Option.some.inj (h2.symm.trans hg)
    obtain rfl := Option.some.inj (h3.symm.trans ht)
    obtain ⟨xas, a1, a2, a3⟩ := ih (k + 1) q h4 hq (fun b off hm => hrows b off (List.mem_append_right _ hm))
    obtain ⟨l0⟩ := cs
    have ok : ∀ u v, l0 = [.iface u v] → Value.okWide Tryd.prog W .any 0 u v := fun u v e => by
      subst e
      exact (hrows k 0 (by simp [MemPlace.row])).2 u v (by simpa using World.var?_cell hg hv 0)
    obtain ⟨x, s, rfl, hc, _, _, rfl⟩ := errorString_of_trod Tryd.underlying30 Tryd.only79 Tryd.underlying79 Tryd.underlying96 rfl rfl Tryd.underlying9 Tryd.cells96 Tryd.cells9 hd ok
    have hmem : MemPlace.cell x.block x.off ∈ MemPlace.row ⟨k, 0, none⟩ 1 ++ MemPlace.row x 1 ++ q := by simp [MemPlace.row]
    refine ⟨x :: xas, by simp [a1], fun i y hy => ?_, fun hnd => ?_⟩
    · cases i with
      | zero =>
        simp at hy
        subst hy
        refine ⟨?_, (hrows _ _ hmem).1, hmem⟩
        have := World.var?_cell hg hv 0
        simpa [errV] using this
      | succ i =>
        obtain ⟨b1, b2, b3⟩ := a2 i y (by simpa using hy)
        rw [show k + (i + 1) = k + 1 + i by omega]
        exact ⟨b1, b2, List.mem_append_right _ b3⟩
    · rw [List.nodup_append] at hnd
      obtain ⟨_, hq2, hd2⟩ := hnd
      refine List.nodup_cons.2 ⟨fun hin => ?_, a3 hq2⟩
      obtain ⟨i, hi⟩ := List.getElem?_of_mem hin
      have h5 := (a2 i x hi).2.2
      exact hd2 (MemPlace.cell x.block x.off) (by simp [MemPlace.row]) (MemPlace.cell x.block x.off) h5 rfl

/-- The variables of package api that a row lists hold errors that lie in memory of their own. -/
structure SomeErrs (w : World) (n : Nat) (a : Nat → Addr) : Prop where
  cell : ∀ i, i < n → w.cell? ⟨i, 0, none⟩ = some (errV (a i))
  row : ∀ i, i < n → ∃ c t, w.heap[(a i).block]? = some (.cells c t (0, 0))
  ne : ∀ i j, i < n → j < n → i ≠ j → a i ≠ a j
theorem SomeErrs.errs {w : World} {n : Nat} {a : Nat → Addr} (h : SomeErrs w n a) (hn : 3 ≤ n) : Errs w (fun b => b < w.heap.size) a :=
  fun i hi => ⟨World.block_lt_of_cell? w _ (h.cell i (by omega)), h.cell i (by omega)⟩
theorem SomeErrs.all {w : World} {a : Nat → Addr} (h : SomeErrs w 18 a) : AllErrs w a :=
  ⟨h.cell, h.row, ⟨h.ne 1 0 (by omega) (by omega) (by omega), h.ne 2 0 (by omega) (by omega) (by omega), h.ne 2 1 (by omega) (by omega) (by omega)⟩, by have := World.block_lt_of_cell? w _ (h.cell 17 (by omega)); simp at this; omega⟩
theorem errs_of_laid {l : List (String × DataW Unit)} {W : World} {n : Nat} (h : laidMetH Tryd.prog l W) (h1 : (l.all fun x => x.2.handleName?.isNone) = true) (h2 : sentsB Tryd.prog 0 l = true) (h3 : l.length = n) : ∃ a : Nat → Addr, SomeErrs W n a := by
  rw [MakeChecks.laidMetH_plain _ _ _ h1] at h
  obtain ⟨ps, hl, hnd, hrows⟩ := h
  obtain ⟨xas, b1, b2, b3⟩ := sents_of l 0 ps h2 hl hrows
  have hat : ∀ i, i < n → xas[i]? = some (xas.getD i ⟨0, 0, none⟩) := fun i hi => by
    rw [List.getD_eq_getElem?_getD, List.getElem?_eq_getElem (by omega)]; rfl
  refine ⟨fun i => xas.getD i ⟨0, 0, none⟩, fun i hi => ?_, fun i hi => (b2 i _ (hat i hi)).2.1, fun i j hi hj hij e => ?_⟩
  · have := (b2 i _ (hat i hi)).1
    rw [Nat.zero_add] at this
    exact this
  · have hnd' := b3 hnd
    have h4 := hat i hi
    have h5 := hat j hj
    rw [show xas.getD j ⟨0, 0, none⟩ = xas.getD i ⟨0, 0, none⟩ from e.symm] at h5
    exact hij ((List.getElem?_inj (i := i) (j := j) (by omega) hnd').1 (h4.trans h5.symm))
end Go.Proofs.YtedmgdiimfenaaaDoor
