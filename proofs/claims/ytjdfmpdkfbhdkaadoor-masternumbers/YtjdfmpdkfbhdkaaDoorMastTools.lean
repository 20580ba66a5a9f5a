
/- Small facts for the walks over masters: a master stored whole into its box, a number put anew. -/
import Derived.Test.YtjdfmpdkfbhdkaaDoorMastRef
import Derived.Test.YtjdfmpdkfbhdkaaDoorLay
import Derived.Deep.Cut
namespace Go.Proofs.YtjdfmpdkfbhdkaaDoor
open Go.RowKit
set_option linter.unusedVariables false

/-- The world with a master stored whole. -/
def put7 (w : World) (B : Nat) (m : M) : World := ((((((w.setCell ⟨B, 0, none⟩ (.int .i64 m.e)).setCell ⟨B, 1, none⟩ (.int .i64 m.b)).setCell ⟨B, 2, none⟩ (.int .i64 m.r)).setCell ⟨B, 3, none⟩ (.int .i64 m.c)).setCell ⟨B, 4, none⟩ (.int .i64 m.p)).setCell ⟨B, 5, none⟩ (.int .i64 m.k)).setCell ⟨B, 6, none⟩ (.int .i64 m.f)
theorem At7.congr {w : World} {B : Nat} {f g : Nat → Int} (h : At7 w B f) (e : ∀ i, i < 7 → f i = g i) : At7 w B g := ⟨fun i hi => by rw [← e i hi]; exact h.cell i hi, h.fz, h.lt⟩
theorem At7.put7 {w : World} {B : Nat} {f : Nat → Int} (h : At7 w B f) (m : M) : At7 (put7 w B m) B m.nth := by
  have h0 := h.set 0 (by omega) m.e _ (fun _ _ => rfl)
  have h1 := h0.set 1 (by omega) m.b _ (fun _ _ => rfl)
  have h2 := h1.set 2 (by omega) m.r _ (fun _ _ => rfl)
  have h3 := h2.set 3 (by omega) m.c _ (fun _ _ => rfl)
  have h4 := h3.set 4 (by omega) m.p _ (fun _ _ => rfl)
  have h5 := h4.set 5 (by omega) m.k _ (fun _ _ => rfl)
  have h6 := h5.set 6 (by omega) m.f _ (fun _ _ => rfl)
  refine At7.congr h6 fun i hi => ?_
  rcases (show i = 0 ∨ i = 1 ∨ i = 2 ∨ i = 3 ∨ i = 4 ∨ i = 5 ∨ i = 6 by omega) with rfl | rfl | rfl | rfl | rfl | rfl | rfl <;> rfl
theorem At7.far7 {w : World} {B C : Nat} {f : Nat → Int} (h : At7 w C f) (m : M) (hne : C ≠ B) : At7 (Proofs.YtjdfmpdkfbhdkaaDoor.put7 w B m) C f :=
  ((((((h.far B 0 _ hne).far B 1 _ hne).far B 2 _ hne).far B 3 _ hne).far B 4 _ hne).far B 5 _ hne).far B 6 _ hne
theorem below_put7 {C B : Nat} {a w : World} (h : Below C a w) (hC : C ≤ B) (m : M) : Below C a (put7 w B m) :=
  ((((((h.setCell (p := ⟨B, 0, none⟩) hC _).setCell (p := ⟨B, 1, none⟩) hC _).setCell (p := ⟨B, 2, none⟩) hC _).setCell (p := ⟨B, 3, none⟩) hC _).setCell (p := ⟨B, 4, none⟩) hC _).setCell (p := ⟨B, 5, none⟩) hC _).setCell (p := ⟨B, 6, none⟩) hC _
theorem At7.cells {w : World} {B : Nat} {m : M} (h : At7 w B m.nth) : Cells7 w B m := ⟨h.cell 0 (by omega), h.cell 1 (by omega), h.cell 2 (by omega), h.cell 3 (by omega), h.cell 4 (by omega), h.cell 5 (by omega), h.cell 6 (by omega), h.lt⟩
/-- A number put anew. -/
def M.put (m : M) (k : Nat) (v : Int) : M :=
  match k with
  | 0 => ⟨v, m.b, m.r, m.c, m.p, m.k, m.f⟩
  | 1 => ⟨m.e, v, m.r, m.c, m.p, m.k, m.f⟩
  | 2 => ⟨m.e, m.b, v, m.c, m.p, m.k, m.f⟩
  | 3 => ⟨m.e, m.b, m.r, v, m.p, m.k, m.f⟩
  | 4 => ⟨m.e, m.b, m.r, m.c, v, m.k, m.f⟩
  | 5 => ⟨m.e, m.b, m.r, m.c, m.p, v, m.f⟩
  | _ => ⟨m.e, m.b, m.r, m.c, m.p, m.k, v⟩
theorem M.put_nth (m : M) (k : Nat) (hk : k < 7) (v : Int) (i : Nat) (hi : i < 7) : (m.put k v).nth i = if i = k then v else m.nth i := by
  rcases (show k = 0 ∨ k = 1 ∨ k = 2 ∨ k = 3 ∨ k = 4 ∨ k = 5 ∨ k = 6 by omega) with rfl | rfl | rfl | rfl | rfl | rfl | rfl <;> rcases (show i = 0 ∨ i = 1 ∨ i = 2 ∨ i = 3 ∨ i = 4 ∨ i = 5 ∨ i = 6 by omega) with rfl | rfl | rfl | rfl | rfl | rfl | rfl <;> rfl
theorem At7.put {w : World} {B : Nat} {m : M} (h : At7 w B m.nth) (k : Nat) (hk : k < 7) (v : Int) : At7 (w.setCell ⟨B, k, none⟩ (.int .i64 v)) B (m.put k v).nth := h.set k hk v _ fun i hi => m.put_nth k hk v i hi
/-- A box in which a master came. -/
theorem box7 (w : World) (m : M) : At7 (w.alloc (mCells m)) w.heap.size m.nth ∧ Below w.heap.size w (w.alloc (mCells m)) := ⟨at7_new w m, below_box _ _⟩
theorem nth_mastB {m : M} (h : okM m = true) (j : Nat) (hj : j < 7) : getB (mastB m) (4 + 4 * (j : Int)) 4 = m.nth j := by
  rw [Int.mul_comm]
  exact get_mastUp m ((okM_iff m).1 h).nth 7 j hj (Nat.le_refl _)
end Go.Proofs.YtjdfmpdkfbhdkaaDoor
