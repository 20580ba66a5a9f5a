/- Lemmas and contracts that the law stands on, joined: DtFirst. -/
import Derived.Test.YtjacenhblclkaaaDoorJoin45
import Derived.Test.YtjacenhblclkaaaDoorJoin44
import Derived.Test.YtjacenhblclkaaaDoorJoin48
import Derived.Test.YtjacenhblclkaaaDoorJoin8
/- A new table; the chapter's examples; numbers that came in. -/
namespace Go.Proofs.YtjacenhblclkaaaDoor
open Go.RowKit
set_option linter.unusedVariables false

theorem tab_new (w : World) : TabAt (w.alloc (.cells #[.map none] 83)) w.heap.size 0 none 0 [] :=
  ⟨⟨_, _, heap_alloc_new _ _, rfl⟩, List.Pairwise.nil, fun _ => rfl, fun b hb => by simp at hb⟩
theorem wf_small {x : Int} (h0 : -9223372036854775808 ≤ x) (h1 : x ≤ 9223372036854775807) : (Lit.int .i64 x).wf = true := by
  simp [Lit.wf, IntKind.min, IntKind.max, IntKind.signed, IntKind.bits]
  omega
/-- The pages of a table are numbers of an int's kind. -/
theorem TabAt.wf_key {w : World} {T o N : Nat} {mb : Option Nat} {es : List (Int × Int)} (h : TabAt w T o mb N es) {e : Int × Int} (he : e ∈ es) : (Lit.int .i64 e.1).wf = true := by
  cases mb with
  | none => rw [h.nil rfl] at he; simp at he
  | some b => exact intKeys_wf (h.own b rfl) Tryd.underlying3 e.1 (by rw [keys_mapD]; exact List.mem_map.2 ⟨e, he, rfl⟩)
/-- A list of numbers that came in. -/
theorem IsRow.nums {w : World} {a : Option Addr} {len cap : Nat} {zs : List Int} (h : IsRow .i64 w a len cap zs) :
    (0 < len → ∃ b off, a = some ⟨b, off, none⟩ ∧ b < w.heap.size ∧ ∀ i, i < len → w.cell? ⟨b, off + i, none⟩ = some (.int .i64 (zs.getD i 0))) ∧ ∀ i, i < len → (Lit.int .i64 (zs.getD i 0)).wf = true := by
  rcases h with ⟨rfl, rfl, rfl, rfl⟩ | ⟨x, rfl, h1, h2, h3, h4, h5⟩
  · exact ⟨fun h => by omega, fun i hi => by omega⟩
  · refine ⟨fun hp => ?_, fun i hi => ?_⟩
    · obtain ⟨b, off, spot⟩ := x
      have hspot : spot = none := by
        have hc := h4 0 (by omega)
        simpa [Addr.add] using World.cell?_spot hc
      subst hspot
      refine ⟨b, off, rfl, ?_, fun i hi => ?_⟩
      · have hc := h4 0 (by omega)
        rw [Addr.add_lit] at hc
        exact World.block_lt_of_cell? _ _ hc
      · have hc := h4 i (by omega)
        rwa [Addr.add_lit] at hc
    · rw [List.getD_eq_getElem?_getD, List.getElem?_eq_getElem (by omega)]
      exact h5 _ (List.getElem_mem _)
end Go.Proofs.YtjacenhblclkaaaDoor
