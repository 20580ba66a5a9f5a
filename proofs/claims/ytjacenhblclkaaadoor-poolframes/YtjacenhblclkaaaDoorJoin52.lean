/- Lemmas and contracts that the law stands on, joined: Lay. -/
import Derived.Test.YtjacenhblclkaaaDoorJoin5
import Derived.Test.YtjacenhblclkaaaDoorTie
import Derived.Test.YtjacenhblclkaaaDoorCards
import Derived.ProofKit
import Derived.LaidMore
import Derived.OpenShut
import Derived.ShutString
import Derived.ChangeOld
import Derived.Below
import Derived.Stop.Joined
import Derived.SevenTiedAt
/- What the variables of package api that a row lists hold when a call begins: errors, each in memory of its own. -/
namespace Go.Proofs.YtjacenhblclkaaaDoor
open Go.RowKit
set_option linter.unusedVariables false

theorem Tryd.name168 : Tryd.prog.typeName? 3 168 = some "*errors.errorString" := by kernel_rfl
theorem Tryd.cells184 : Tryd.prog.cellsOf 184 = 1 := by kernel_rfl
theorem Tryd.cells9 : Tryd.prog.cellsOf 9 = 1 := by kernel_rfl
theorem Tryd.star : "*" ++ "errors.errorString" = "*errors.errorString" := by decide
theorem Tryd.only168 (u : TypeId) (h : Tryd.prog.typeName? 3 u = some "*errors.errorString") : u = 168 :=
  typeName_ptr_named (nm := "errors.errorString") (by rw [Tryd.star]; kernel_rfl) (by kernel_rfl) (by decide) u (by rw [Tryd.star]; exact h)

/-- A list of errors; ks: their places in the document's list. -/
def sentsB (P : Program) : List Nat → List (String × DataW Unit) → Bool
  | [], [] => true
  | k :: ks, (n, d) :: r => (match d with | .iface nm (.ptr (.agg [.lit (.string _)])) => nm == "*errors.errorString" | _ => false) && decide (P.globalNamed n = some (gno k)) && decide ((P.globals[gno k]?).map (·.type) = some 36) && sentsB P ks r
  | _, _ => false
theorem sent_shape {d : DataW Unit} (h : (match d with | .iface nm (.ptr (.agg [.lit (.string _)])) => nm == "*errors.errorString" | _ => false) = true) : ∃ text, d = .iface "*errors.errorString" (.ptr (.agg [.lit (.string text)])) := by
  split at h
  · rename_i nm text
    exact ⟨text, by rw [eq_of_beq h]⟩
  · simp at h
set_option maxRecDepth 100000 in
theorem sents_of {W : World} : ∀ (l : List (String × DataW Unit)) (ks : List Nat) (ps : List MemPlace), sentsB Tryd.prog ks l = true → DataW.LaidVars Tryd.prog W l ps →
    (∀ b off, MemPlace.cell b off ∈ ps → (∃ c t, W.heap[b]? = some (.cells c t (0, 0))) ∧ ∀ u v, W.cell? ⟨b, off, none⟩ = some (.iface u v) → Value.okWide Tryd.prog W .any 0 u v) →
    ∃ xas : List Addr, xas.length = ks.length ∧ (∀ (i k : Nat) (x : Addr), ks[i]? = some k → xas[i]? = some x → W.cell? ⟨gno k, 0, none⟩ = some (errV x) ∧ (∃ c t, W.heap[x.block]? = some (.cells c t (0, 0))) ∧ MemPlace.cell x.block x.off ∈ ps) ∧ (ps.Nodup → xas.Nodup) := by
  intro l
  induction l with
  | nil =>
    intro ks ps hs _ _
    cases ks with
    | nil => exact ⟨[], rfl, fun i k x h => by simp at h, fun _ => List.nodup_nil⟩
    | cons k ks => simp [sentsB] at hs
  | cons e r ih =>
    obtain ⟨n, d⟩ := e
    intro ks ps hs hl hrows
    cases ks with
    | nil => simp [sentsB] at hs
    | cons k ks =>
      simp only [sentsB, Bool.and_eq_true, decide_eq_true_eq] at hs
      obtain ⟨⟨⟨h1, h2⟩, h3⟩, h4⟩ := hs
      obtain ⟨text, rfl⟩ := sent_shape h1
      obtain ⟨g, t, cs, fuel, p, q, hg, ht, hv, hd, hq, rfl⟩ := hl
      obtain rfl := Option.some.inj (h2.symm.trans hg)
      obtain rfl := Option.some.inj (h3.symm.trans ht)
      obtain ⟨xas, a1, a2, a3⟩ := ih ks q h4 hq (fun b off hm => hrows b off (List.mem_append_right _ hm))
      obtain ⟨l0⟩ := cs
      have ok : ∀ u v, l0 = [.iface u v] → Value.okWide Tryd.prog W .any 0 u v := fun u v e => by
        subst e
        exact (hrows (gno k) 0 (by simp [MemPlace.row])).2 u v (by simpa using World.var?_cell hg hv 0)
      obtain ⟨x, s, rfl, hc, _, _, rfl⟩ := errorString_of_trod Tryd.underlying36 Tryd.only168 Tryd.underlying168 Tryd.underlying184 rfl rfl Tryd.underlying9 Tryd.cells184 Tryd.cells9 hd ok
      have hmem : MemPlace.cell x.block x.off ∈ MemPlace.row ⟨gno k, 0, none⟩ 1 ++ MemPlace.row x 1 ++ q := by simp [MemPlace.row]
      refine ⟨x :: xas, by simp [a1], fun i k' y hk hy => ?_, fun hnd => ?_⟩
      · cases i with
        | zero =>
          simp at hy hk
          subst hy
          subst hk
          refine ⟨?_, (hrows _ _ hmem).1, hmem⟩
          have := World.var?_cell hg hv 0
          simpa [errV] using this
        | succ i =>
          obtain ⟨b1, b2, b3⟩ := a2 i k' y (by simpa using hk) (by simpa using hy)
          exact ⟨b1, b2, List.mem_append_right _ b3⟩
      · rw [List.nodup_append] at hnd
        obtain ⟨_, hq2, hd2⟩ := hnd
        refine List.nodup_cons.2 ⟨fun hin => ?_, a3 hq2⟩
        obtain ⟨i, hi⟩ := List.getElem?_of_mem hin
        have hil : i < ks.length := by rw [← a1]; exact (List.getElem?_eq_some_iff.1 hi).1
        have h5 := (a2 i _ x (List.getElem?_eq_getElem hil) hi).2.2
        exact hd2 (MemPlace.cell x.block x.off) (by simp [MemPlace.row]) (MemPlace.cell x.block x.off) h5 rfl
theorem errs_of_laid {l : List (String × DataW Unit)} {W : World} (ks : List Nat) (h : laidMetH Tryd.prog l W) (h1 : (l.all fun x => x.2.handleName?.isNone) = true) (h2 : sentsB Tryd.prog ks l = true) (h3 : ks.Nodup) : ∃ a : Nat → Addr, ErrsOf W ks a := by
  rw [MakeChecks.laidMetH_plain _ _ _ h1] at h
  obtain ⟨ps, hl, hnd, hrows⟩ := h
  obtain ⟨xas, b1, b2, b3⟩ := sents_of l ks ps h2 hl hrows
  have hix : ∀ k ∈ ks, ks[ks.idxOf k]? = some k := fun k hk => by
    rw [List.getElem?_eq_getElem (List.idxOf_lt_length_of_mem hk), List.getElem_idxOf]
  have hat : ∀ k ∈ ks, xas[ks.idxOf k]? = some (xas.getD (ks.idxOf k) ⟨0, 0, none⟩) := fun k hk => by
    have := List.idxOf_lt_length_of_mem hk
    rw [List.getD_eq_getElem?_getD, List.getElem?_eq_getElem (by omega)]; rfl
  refine ⟨fun k => xas.getD (ks.idxOf k) ⟨0, 0, none⟩, fun k hk => (b2 _ k _ (hix k hk) (hat k hk)).1, fun k hk => (b2 _ k _ (hix k hk) (hat k hk)).2.1, fun i hi j hj hij e => ?_⟩
  have h4 := hat i hi
  have h5 := hat j hj
  rw [show xas.getD (ks.idxOf j) ⟨0, 0, none⟩ = xas.getD (ks.idxOf i) ⟨0, 0, none⟩ from e.symm] at h5
  have hlt := List.idxOf_lt_length_of_mem hi
  have h6 := (List.getElem?_inj (i := ks.idxOf i) (j := ks.idxOf j) (by omega) (b3 hnd)).1 (h4.trans h5.symm)
  have h7 := hix i hi
  rw [h6, hix j hj] at h7
  exact hij (Option.some.inj h7).symm
end Go.Proofs.YtjacenhblclkaaaDoor
