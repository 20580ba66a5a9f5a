/- Lemmas and contracts that the law stands on, joined: News. -/
import Derived.Test.YtdijgpkcolpfoaaDoorJoin19
import Derived.Deep.OwnRows
/- What disk.New answers, for every number of sectors. -/
namespace Go.Proofs.YtdijgpkcolpfoaaDoor
open Go.RowKit
set_option linter.unusedVariables false

/-- A sector's bytes, all the same. -/
def fillOf (x : Int) : List Int := List.replicate 256 x
theorem length_fillOf (x : Int) : (fillOf x).length = 256 := List.length_replicate ..
theorem bytes_fillOf {x : Int} (h0 : 0 ≤ x) (h1 : x ≤ 255) : Bytes (fillOf x) := fun y hy => by rw [(List.mem_replicate.1 hy).2]; exact ⟨h0, h1⟩
/-- A new block of a sector's zeros. -/
def zeroBlock : Obj := .cells (cellsOf (fillOf 0)).toArray 5
theorem make_sector (w : World) : (Instr.makeSlice 26 (.int .i64 256) (.int .i64 256)).run Tryd.prog w = .ok (.slice (some ⟨w.heap.size, 0, none⟩) 256 256) (w.alloc zeroBlock) := by
  have h := run_make_row' (P := Tryd.prog) 26 5 (.int .u8 0) 1 Tryd.underlying26 Tryd.info5 rfl .i64 .i64 256 (by decide) (by decide) w
  have e : madeCells #[Value.int .u8 0] 256 = (cellsOf (fillOf 0)).toArray := by
    apply Array.ext'
    rw [toList_madeCells_one]
    exact List.map_replicate.symm
  rw [e] at h
  exact h
theorem own_zeroBlock (w : World) : Own (w.alloc zeroBlock) w.heap.size (some ⟨w.heap.size, 0, none⟩) 256 (fillOf 0) := by
  have h := own_of_row (w := w.alloc zeroBlock) (B := w.heap.size) (xs := fillOf 0) (heap_alloc_new w _) (bytes_fillOf (by omega) (by omega)) (by rw [length_fillOf]; omega)
  rw [length_fillOf] at h
  exact h
theorem Sec.isIn.of_block {w w' : World} {K : Nat → Prop} {x : Sec} (h : x.isIn w K) (hb : ∀ g, g < w.heap.size → (x.v.ownBlock = some g ∨ ∃ p ∈ x.vs, p.val.ownBlock = some g) → w'.heap[g]? = w.heap[g]?) : x.isIn w' K := by
  obtain ⟨h1, h2, h3, h4, h5⟩ := h
  refine ⟨owns_of_block h1 fun g hg hlt => hb g hlt (.inl hg), h2, h3, h4, fun p hp => ?_⟩
  obtain ⟨p1, p2, p3⟩ := h5 p hp
  exact ⟨p1.of_block fun g hg hlt => hb g hlt (.inr ⟨p, hp, hg⟩), p2, p3⟩
end Go.Proofs.YtdijgpkcolpfoaaDoor
