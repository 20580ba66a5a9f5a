/- Lemmas and contracts that the law stands on, joined: DtMem. -/
import Derived.Test.YtjacenhblclkaaaDoorJoin9
import Derived.Test.YtjacenhblclkaaaDoorJoin5
import Derived.Great.CaseRows
import Derived.Maps.AppendAt
/- Pages that are not on disk, in memory: lists that are read, lists of our own, one appended. -/
namespace Go.Proofs.YtjacenhblclkaaaDoor
open Go.RowKit
set_option linter.unusedVariables false

theorem Tryd.info68 : (Tryd.prog.info? 68).map (fun i => (i.zero, i.size, i.bytes)) = some (some (.agg #[.int .i64 0, .int .i64 0]), 2, 16) := by kernel_rfl
theorem Tryd.size68 : (Tryd.prog.info? 68).map (·.size) = some 2 := by kernel_rfl
theorem Tryd.hasz68 : ((Tryd.prog.info? 68).bind (·.zero)).isSome = true := by kernel_rfl
/-- An entry as a value, as a block. -/
def dirV (e : Int × Int) : Value := .agg #[.int .i64 e.1, .int .i64 e.2]
def dirBlock (e : Int × Int) : Obj := .cells #[.int .i64 e.1, .int .i64 e.2] 68
/-- Entries as cells. -/
def dirCells (l : List (Int × Int)) : List Value := l.flatMap fun q => [.int .i64 q.1, .int .i64 q.2]
theorem length_dirCells (l : List (Int × Int)) : (dirCells l).length = l.length * 2 := by
  induction l with
  | nil => rfl
  | cons q l ih => simp only [dirCells, List.flatMap_cons, List.length_append, List.length_cons, List.length_nil] at ih ⊢; omega
theorem dirCells_append (l m : List (Int × Int)) : dirCells (l ++ m) = dirCells l ++ dirCells m := by simp [dirCells]
theorem dirCells_at : ∀ (l : List (Int × Int)) (t : Nat) (q : Int × Int), l[t]? = some q → (dirCells l)[t * 2]? = some (.int .i64 q.1) ∧ (dirCells l)[t * 2 + 1]? = some (.int .i64 q.2) := by
  intro l
  induction l with
  | nil => intro t q h; simp at h
  | cons p l ih =>
    intro t q h
    cases t with
    | zero => simp at h; subst h; simp [dirCells]
    | succ t =>
      have h1 := ih t q (by simpa using h)
      simp only [dirCells, List.flatMap_cons] at h1 ⊢
      rw [show (t + 1) * 2 = t * 2 + 2 by omega, show t * 2 + 2 + 1 = (t * 2 + 1) + 2 by omega]
      simpa using h1
theorem oneCell_dirs (l : List (Int × Int)) : ∀ u ∈ dirCells l, u.oneCell' = true := by
  intro u hu
  obtain ⟨q, _, h⟩ := List.mem_flatMap.1 hu
  simp at h
  rcases h with rfl | rfl <;> rfl
/-- The slice at ao reads as the entries es. -/
def DirRow (w : World) (ao : Option Addr) (es : List (Int × Int)) : Prop :=
  es.length ≤ 1000 ∧ (0 < es.length → ∃ b off, ao = some ⟨b, off, none⟩ ∧ b < w.heap.size ∧ ∀ i e, es[i]? = some e → w.cell? ⟨b, off + i * 2, none⟩ = some (.int .i64 e.1) ∧ w.cell? ⟨b, off + i * 2 + 1, none⟩ = some (.int .i64 e.2))
theorem DirRow.below {w w' : World} {B : Nat} {ao : Option Addr} {es : List (Int × Int)} (h : DirRow w ao es) (hb : Below B w w') (hB : w.heap.size ≤ B) : DirRow w' ao es := by
  refine ⟨h.1, fun hp => ?_⟩
  obtain ⟨b, off, e, hlt, hc⟩ := h.2 hp
  refine ⟨b, off, e, Nat.lt_of_lt_of_le hlt hb.size, fun i x hi => ?_⟩
  have := hc i x hi
  exact ⟨(hb.cell (p := ⟨b, off + i * 2, none⟩) (Nat.lt_of_lt_of_le hlt hB)).trans this.1, (hb.cell (p := ⟨b, off + i * 2 + 1, none⟩) (Nat.lt_of_lt_of_le hlt hB)).trans this.2⟩
theorem DirRow.step {w w' : World} {ao : Option Addr} {es : List (Int × Int)} (h : DirRow w ao es) (hb : Below w.heap.size w w') : DirRow w' ao es := h.below hb (Nat.le_refl _)
theorem DirRow.drew {w : World} {ao : Option Addr} {es : List (Int × Int)} (h : DirRow w ao es) : DirRow w.drew ao es := h.step (below_drew (Below.refl _ _))
theorem dirRow_nil (w : World) (ao : Option Addr) : DirRow w ao [] := ⟨by simp, fun h => by simp at h⟩
/-- Entries of our own, in a block from B on. -/
def OwnD (w : World) (B : Nat) (ao : Option Addr) (cap : Nat) (es : List (Int × Int)) : Prop :=
  w.ownsRow B 68 2 (.slice ao es.length cap) es.length (dirCells es) ∧ es.length ≤ 1000
theorem ownD_nil (w : World) (B : Nat) : OwnD w B none 0 [] := ⟨World.ownsRow_nil _ _ _ _, by simp⟩
theorem OwnD.row {w : World} {B : Nat} {ao : Option Addr} {cap : Nat} {es : List (Int × Int)} (h : OwnD w B ao cap es) : DirRow w ao es := by
  obtain ⟨h1, h2⟩ := h
  refine ⟨h2, fun hp => ?_⟩
  have h1' := h1
  rcases h1.2 with ⟨e, h0⟩ | ⟨g, c, cur, hv, hg, hh, h4, h5, h6, h7⟩
  · omega
  · simp only [Value.slice.injEq] at hv
    obtain ⟨rfl, _, rfl⟩ := hv
    refine ⟨g, 0, rfl, lt_of_block hh, fun i e hi => ?_⟩
    have hlt := (List.getElem?_eq_some_iff.1 hi).1
    obtain ⟨a1, a2⟩ := dirCells_at es i e hi
    rw [Nat.zero_add, h1'.cellAt (i * 2) (by omega), h1'.cellAt (i * 2 + 1) (by omega)]
    exact ⟨a1, a2⟩
theorem OwnD.of_blocks {w w' : World} {B : Nat} {ao : Option Addr} {cap : Nat} {es : List (Int × Int)} (h : OwnD w B ao cap es) (hb : ∀ g, B ≤ g → g < w.heap.size → w'.heap[g]? = w.heap[g]?) : OwnD w' B ao cap es := by
  obtain ⟨⟨h0, h1⟩, h2⟩ := h
  refine ⟨⟨h0, ?_⟩, h2⟩
  rcases h1 with h1 | ⟨g, c, cur, hv, hg, hh, r⟩
  · exact .inl h1
  · exact .inr ⟨g, c, cur, hv, hg, by rw [hb g hg (lt_of_block hh)]; exact hh, r⟩
theorem OwnD.below {w w' : World} {B C : Nat} {ao : Option Addr} {cap : Nat} {es : List (Int × Int)} (h : OwnD w B ao cap es) (hb : Below C w w') (hC : w.heap.size ≤ C) : OwnD w' B ao cap es := h.of_blocks fun g _ hg => hb.block g (Nat.lt_of_lt_of_le hg hC)
theorem OwnD.step {w w' : World} {B : Nat} {ao : Option Addr} {cap : Nat} {es : List (Int × Int)} (h : OwnD w B ao cap es) (hb : Below w.heap.size w w') : OwnD w' B ao cap es := h.below hb (Nat.le_refl _)
theorem OwnD.mono {w : World} {B C : Nat} {ao : Option Addr} {cap : Nat} {es : List (Int × Int)} (h : OwnD w B ao cap es) (hC : C ≤ B) : OwnD w C ao cap es := by
  obtain ⟨⟨h0, h1⟩, h2⟩ := h
  refine ⟨⟨h0, ?_⟩, h2⟩
  rcases h1 with h1 | ⟨g, c, cur, hv, hg, r⟩
  · exact .inl h1
  · exact .inr ⟨g, c, cur, hv, by omega, r⟩
theorem OwnD.le {w : World} {B : Nat} {ao : Option Addr} {cap : Nat} {es : List (Int × Int)} (h : OwnD w B ao cap es) : es.length ≤ cap := by
  rcases h.1.2 with ⟨h1, h2⟩ | ⟨g, c, cur, h1, h2, h3, h4⟩
  · omega
  · simp only [Value.slice.injEq] at h1
    obtain ⟨_, _, rfl⟩ := h1
    exact h4.1
theorem own_shapeD {w : World} {B e sz n : Nat} {v : Value} {cs : List Value} (h : w.ownsRow B e sz v n cs) : ∃ ao cap, v = .slice ao n cap := by
  rcases h.2 with ⟨h1, h2⟩ | ⟨g, cap, cur, h1, _⟩
  · exact ⟨none, 0, by rw [h1, h2]⟩
  · exact ⟨_, cap, h1⟩
theorem cells_of_dirs {w : World} {b off : Nat} {ts : List (Int × Int)} (h : ∀ i e, ts[i]? = some e → w.cell? ⟨b, off + i * 2, none⟩ = some (.int .i64 e.1) ∧ w.cell? ⟨b, off + i * 2 + 1, none⟩ = some (.int .i64 e.2)) : ∀ j u, (dirCells ts)[j]? = some u → w.cell? ((⟨b, off, none⟩ : Addr).add j) = some u := by
  intro j u hj
  have hjl := (List.getElem?_eq_some_iff.1 hj).1
  rw [length_dirCells] at hjl
  have hi : j / 2 < ts.length := by omega
  obtain ⟨a1, a2⟩ := dirCells_at ts (j / 2) ts[j / 2] (List.getElem?_eq_getElem hi)
  obtain ⟨c1, c2⟩ := h (j / 2) ts[j / 2] (List.getElem?_eq_getElem hi)
  rw [Addr.add_lit]
  rcases (show j = j / 2 * 2 ∨ j = j / 2 * 2 + 1 by omega) with e | e
  · have e2 : off + j = off + j / 2 * 2 := by omega
    rw [e2, c1]
    rw [e, a1] at hj
    exact hj
  · have e2 : off + j = off + j / 2 * 2 + 1 := by omega
    rw [e2, c2]
    rw [show j = j / 2 * 2 + 1 from e, a2] at hj
    exact hj
/-- What the builtin append does to entries of our own. -/
theorem run_appendD {w : World} {B : Nat} {ao : Option Addr} {n c : Nat} {es ts : List (Int × Int)} {b off m yc : Nat} (hown : OwnD w B ao c es) (hn : es.length = n) (hm : ts.length = m) (hs : n + m ≤ 1000) (hB : B ≤ w.heap.size) (h : ∀ i e, ts[i]? = some e → w.cell? ⟨b, off + i * 2, none⟩ = some (.int .i64 e.1) ∧ w.cell? ⟨b, off + i * 2 + 1, none⟩ = some (.int .i64 e.2)) (ty : TypeId) :
    ∃ ao' c' w', (Builtin.append_ #[53, 53] ty #[.slice ao n c, .slice (some ⟨b, off, none⟩) m yc]).run Tryd.prog w = .ok (.slice ao' (n + m) c') w' ∧ OwnD w' B ao' c' (es ++ ts) ∧ w.grownBy w' (Value.slice ao n c).ownBlock ∧ Below B w w' := by
  subst hn; subst hm
  obtain ⟨i0, hi, hz0, hz1, hz2⟩ := info_parts Tryd.info68
  obtain ⟨v', w', hr, ho, hg, _, hat⟩ := run_append_own_at (P := Tryd.prog) w B 53 ty 68 i0 _ 2 16 Tryd.underlying53 hi hz0 hz1 hz2 rfl (by decide) (.slice ao es.length c) es.length (dirCells es) hown.1 ⟨b, off, none⟩ ts.length yc (dirCells ts) (length_dirCells ts) (cells_of_dirs h) (oneCell_dirs ts) (by unfold maxLen; omega) (by omega) hB
  obtain ⟨ao', c', rfl⟩ := own_shapeD ho
  refine ⟨ao', c', w', hr, ⟨?_, by rw [List.length_append]; exact hs⟩, hg, (Below.refl B w).grown hg hB (fun j e => (hown.1.lt j e).1)⟩
  rw [List.length_append, dirCells_append]
  exact ho
/-- One entry of a new block. -/
theorem dir_new (w : World) (e : Int × Int) : ∀ i x, [e][i]? = some x → (w.alloc (dirBlock e)).cell? ⟨w.heap.size, 0 + i * 2, none⟩ = some (.int .i64 x.1) ∧ (w.alloc (dirBlock e)).cell? ⟨w.heap.size, 0 + i * 2 + 1, none⟩ = some (.int .i64 x.2) := by
  intro i x hi
  cases i with
  | zero =>
    simp only [List.getElem?_cons_zero, Option.some.injEq] at hi
    subst hi
    have hh := heap_alloc_new w (dirBlock e)
    unfold dirBlock at hh ⊢
    exact ⟨(cell_row hh _).trans rfl, (cell_row hh _).trans rfl⟩
  | succ i => simp at hi
/-- A list of one entry is built. -/
theorem buildD {ops : Array Oper} {rest : List Oper} {a : Act} {w : World} {Q : Exit → Act → World → Prop} {d n : Tmp} {ty : TypeId} {pos : String} {af : Array Edge} (e : Int × Int)
    (hev : a.eval (.tmp n) = dirV e)
    (h : wpList Tryd.prog ops Q rest (a.put (some d) (.slice (some ⟨w.heap.size, 0, none⟩) 1 1)) (w.alloc (dirBlock e))) :
    wpList Tryd.prog ops Q ({ dst := some d, op := .buildSlice 53 1 #[(0, .tmp n)], type := ty, pos := pos, after := af, guard := none } :: rest) a w := by
  refine Go.Great.wpList_buildRows rfl 53 68 #[(0, .tmp n)] 2 [dirV e] rfl (fun _ => n) w.heap.size rfl (some d) rfl Tryd.underlying53 Tryd.size68 Tryd.hasz68 (by omega) (by simp) (by simp) rfl (fun v hv => ?_) (fun i hi => ?_) h
  · simp at hv; subst hv; rfl
  · simp at hi; subst hi; exact hev
theorem wpList_append_runD {P : Program} {w : World} {ops : Array Oper} {rest : List Oper} {o : Oper} {a : Act} {Q : Exit → Act → World → Prop} (hgd : o.guard = none) (s x : Operand) (t : TypeId) (ho : o.op = .call { callee := .builtin .append, args := #[s, x], argTypes := #[t, t] }) (vs vx : Value) (hs : a.eval s = vs) (hx : a.eval x = vx)
    {v' : Value} {w' : World} (hr : (Builtin.append_ #[t, t] o.type #[vs, vx]).run P w = .ok v' w') (h : wpList P ops Q rest (a.put o.dst v') w') : wpList P ops Q (o :: rest) a w :=
  wpList_plain hgd fun _ hK => by
    unfold Oper.wp execOp
    simp only [ho, resolve, invoke, builtin, Sem.run_bind, Sem.run_pure, Result.andThen_ok, List.map_toArray, List.map_cons, List.map_nil, hs, hx, hr]
    exact hK _ _ h
/-- What a counter counts. -/
def posOf : Value → Nat
  | .int _ q => q.toNat
  | _ => 0
end Go.Proofs.YtjacenhblclkaaaDoor
