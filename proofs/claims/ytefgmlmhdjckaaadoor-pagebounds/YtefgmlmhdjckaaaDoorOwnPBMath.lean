
/- The pages of the statement PageBounds: keys that rise by two; what makes them none. -/
import Derived.Test.YtefgmlmhdjckaaaDoorJoin27
import Derived.Test.YtefgmlmhdjckaaaDoorJoin21
import Derived.Test.YtefgmlmhdjckaaaDoorJoin5
namespace Go.Proofs.YtefgmlmhdjckaaaDoor.pageBounds
open Go.RowKit
set_option linter.unusedVariables false

def bl (v : Int) (n : Nat) : List (Int × Int) := (List.range n).map fun (i : Nat) => (2 * (i : Int), v)
theorem bl_len (v : Int) (n : Nat) : (bl v n).length = n := by simp [bl]
theorem bl_at (v : Int) (n k : Nat) (hk : k < n) : (bl v n)[k]? = some (2 * (k : Int), v) := by
  unfold bl
  rw [List.getElem?_map, List.getElem?_range hk]
  rfl
theorem bl_up (v : Int) (n : Nat) : Up (bl v n) := by
  unfold Up bl
  rw [List.pairwise_map]
  refine List.Pairwise.imp (fun {a b} h => ?_) List.pairwise_lt_range
  show 2 * (a : Int) < 2 * (b : Int)
  omega
theorem bl_bd (v : Int) (n : Nat) (hn : n ≤ 20) : ∀ e ∈ bl v n, 0 ≤ e.1 ∧ e.1 < 1048576 := by
  intro e he
  obtain ⟨i, hi, rfl⟩ := List.mem_map.1 he
  have := List.mem_range.1 hi
  simp only
  omega
theorem bl_ok (v : Int) (n : Nat) (h1 : 1 ≤ n) (hn : n ≤ 20) : okP 5 (bl v n) = true := (okP_iff _ _).2 ⟨by omega, by omega, by rw [bl_len]; exact hn, up_rise (bl_up v n) (bl_bd v n hn), .inr (by omega)⟩
theorem ok_no {l : Int} {es : List (Int × Int)} (h : ¬ OkP l es) : okP l es = false := by
  cases hq : okP l es with
  | false => rfl
  | true => exact absurd ((okP_iff l es).1 hq) h
theorem no_more {l : Int} {es : List (Int × Int)} (h : 20 < es.length) : okP l es = false := ok_no fun h1 => by have := h1.many; omega
theorem no_fall {l : Int} {es : List (Int × Int)} {e x : Int × Int} (he : e ∈ es) (h : x.1 ≤ e.1) : okP l (es ++ [x]) = false := ok_no fun h1 => by
  have h2 := (List.pairwise_append.1 (rise_up h1.rise)).2.2 e he x (by simp)
  omega
theorem no_key {l : Int} {es : List (Int × Int)} {e : Int × Int} (he : e ∈ es) (h : e.1 < 0 ∨ 1048576 ≤ e.1) : okP l es = false := ok_no fun h1 => by have := rise_bd es 0 h1.rise e he; omega
def lenQ (w : World) (Q : Nat) : Nat := match w.cell? ⟨Q, 1, none⟩ with | some (.slice _ n _) => n | _ => 0
theorem lenQ_of {w0 w : World} {Q : Nat} {l : Int} {ao : Option Addr} {n c : Nat} {es : List (Int × Int)} (h : PageAt w0 w Q l ao n c es) : lenQ w Q = n := by unfold lenQ; rw [h.cell.2.1]
theorem bl_last (v : Int) (n : Nat) (h : 1 ≤ n) : (2 * ((n - 1 : Nat) : Int), v) ∈ bl v n := List.mem_of_getElem? (bl_at v n (n - 1) (by omega))
end Go.Proofs.YtefgmlmhdjckaaaDoor.pageBounds
