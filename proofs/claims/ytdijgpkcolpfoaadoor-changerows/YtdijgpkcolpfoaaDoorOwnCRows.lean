
/- A list of records and a list of pages in memory, beside a page and a source of numbers: how each stays while another turns. -/
import Derived.Test.YtdijgpkcolpfoaaDoorJoin27
import Derived.Test.YtdijgpkcolpfoaaDoorJoin28
import Derived.Test.YtdijgpkcolpfoaaDoorOwnPgBack
namespace Go.Proofs.YtdijgpkcolpfoaaDoor
open Go.RowKit
set_option linter.unusedVariables false

-- ---- the keys behind some changes ----
def doneUp (rs : List R) : List (Int × Int) := rs.foldl (fun es r => doneE r es) []
theorem doneUp_snoc (rs : List R) (r : R) : doneUp (rs ++ [r]) = doneE r (doneUp rs) := by simp [doneUp]
def esAt (rs : List R) (j : Nat) : List (Int × Int) := doneUp (rs.take j)
theorem esAt_all {rs : List R} {k : Nat} (h : rs.length = k) : esAt rs k = doneUp rs := by unfold esAt; rw [List.take_of_length_le (by omega)]
theorem esAt_snoc (rs : List R) (r : R) {j : Nat} (h : j ≤ rs.length) : esAt (rs ++ [r]) j = esAt rs j := by
  unfold esAt
  rw [List.take_append_of_le_length h]
theorem esAt_succ {rs : List R} {k : Nat} {r : R} (h : rs[k]? = some r) : esAt rs (k + 1) = doneE r (esAt rs k) := by
  unfold esAt
  have e : rs.take (k + 1) = rs.take k ++ [r] := by rw [List.take_add_one, h]; rfl
  rw [e, doneUp_snoc]
/-- A record as the statement makes them. -/
def okR (r : R) : Prop := r.kind = 2 ∧ 0 ≤ r.key ∧ r.key < 19
/-- Keys that rise between two bounds. -/
theorem up_len : ∀ {es : List (Int × Int)} {lo : Int}, Up es → (∀ e ∈ es, lo ≤ e.1 ∧ e.1 < 19) → lo ≤ 19 → (es.length : Int) ≤ 19 - lo
  | [], lo, _, _, h => by simp; omega
  | e :: es, lo, hu, hk, h => by
    have h1 := hk e (by simp)
    have h2 := List.pairwise_cons.1 hu
    have ih := up_len (es := es) (lo := e.1 + 1) h2.2 (fun x hx => ⟨by have := h2.1 x hx; omega, (hk x (by simp [hx])).2⟩) (by omega)
    rw [List.length_cons]
    omega
theorem snoc_ind {α : Type} {P : List α → Prop} (nil : P []) (snoc : ∀ l a, P l → P (l ++ [a])) (l : List α) : P l := by
  have h : ∀ n, ∀ l : List α, l.length = n → P l := by
    intro n
    induction n with
    | zero => intro l hl; rw [List.length_eq_zero_iff.1 hl]; exact nil
    | succ n ih =>
      intro l hl
      have hne : l ≠ [] := by intro e; subst e; simp at hl
      rw [← List.dropLast_concat_getLast hne]
      exact snoc _ _ (ih _ (by simp; omega))
  exact h _ l rfl
theorem doneUp_ok : ∀ {rs : List R}, (∀ r ∈ rs, okR r) → Up (doneUp rs) ∧ (∀ e ∈ doneUp rs, 0 ≤ e.1 ∧ e.1 < 19) ∧ (doneUp rs).length ≤ 19 := by
  intro rs
  refine snoc_ind (P := fun rs => (∀ r ∈ rs, okR r) → Up (doneUp rs) ∧ (∀ e ∈ doneUp rs, 0 ≤ e.1 ∧ e.1 < 19) ∧ (doneUp rs).length ≤ 19) ?_ ?_ rs
  · intro _; exact ⟨List.Pairwise.nil, fun e he => by simp [doneUp] at he, by simp [doneUp]⟩
  · intro rs r ih h
    obtain ⟨h1, h2, h3⟩ := ih fun x hx => h x (by simp [hx])
    have hr := h r (by simp)
    have hk : ∀ e ∈ doneE r (doneUp rs), 0 ≤ e.1 ∧ e.1 < 19 := by
      intro e he
      rw [doneE_few r (by omega)] at he
      split at he
      · rcases mem_ins he with rfl | he
        · exact hr.2
        · exact h2 e he
      · exact h2 e (mem_rem he)
    rw [doneUp_snoc]
    have hu := h1.done (r := r) (by omega)
    have := up_len (lo := 0) hu hk (by omega)
    exact ⟨hu, hk, by omega⟩
theorem esAt_ok {rs : List R} (h : ∀ r ∈ rs, okR r) (j : Nat) : Up (esAt rs j) ∧ (∀ e ∈ esAt rs j, 0 ≤ e.1 ∧ e.1 < 19) ∧ (esAt rs j).length ≤ 19 := doneUp_ok fun r hr => h r (List.mem_of_mem_take hr)

-- ---- rows that are owned ----
theorem ownsB {w w' : World} {B e sz n : Nat} {v : Value} {xs : List Value} (h : w.ownsRow B e sz v n xs) (hb : ∀ g, v.ownBlock = some g → g < w.heap.size → w'.heap[g]? = w.heap[g]?) : w'.ownsRow B e sz v n xs := by
  refine ⟨h.1, ?_⟩
  rcases h.2 with h | ⟨g, cap, cur, rfl, hg, hh, r⟩
  · exact .inl h
  · exact .inr ⟨g, cap, cur, rfl, hg, by rw [hb g rfl (lt_of_block hh)]; exact hh, r⟩
theorem ownsTy {w : World} {B e sz n : Nat} {v : Value} {xs : List Value} (h : w.ownsRow B e sz v n xs) {g : Nat} (hg : v.ownBlock = some g) : ∃ cur, w.heap[g]? = some (.cells cur e (0, 0)) := by
  rcases h.2 with ⟨rfl, _⟩ | ⟨g', cap, cur, rfl, _, hh, _⟩
  · simp [Value.ownBlock] at hg
  · simp [Value.ownBlock] at hg
    subst hg
    exact ⟨cur, hh⟩
/-- A row stays while one of another kind grows. -/
theorem owns_grown {w w' : World} {B e sz n B' e' sz' n' : Nat} {v v' : Value} {xs xs' : List Value} (h : w.ownsRow B e sz v n xs) (h' : w.ownsRow B' e' sz' v' n' xs') (hne : e ≠ e') (hg : w.grownBy w' v'.ownBlock) : w'.ownsRow B e sz v n xs :=
  ownsB h fun g hv hl => hg.block g hl fun e1 => by
    obtain ⟨c1, h1⟩ := ownsTy h hv
    obtain ⟨c2, h2⟩ := ownsTy h' e1.symm
    rw [h1] at h2
    injection h2 with h3
    injection h3 with _ h4 _
    exact hne h4

-- ---- a list of pages ----
structure PgD where
  l : Int
  ao : Option Addr
  n : Nat
  c : Nat
def pgdCells (ps : List PgD) : List Value := ps.flatMap fun q => [.int .i64 q.l, .slice q.ao q.n q.c]
theorem length_pgdCells (ps : List PgD) : (pgdCells ps).length = ps.length * 2 := by
  induction ps with
  | nil => rfl
  | cons q l ih => simp only [pgdCells, List.flatMap_cons, List.length_append, List.length_cons, List.length_nil] at ih ⊢; omega
theorem pgdCells_snoc (ps : List PgD) (q : PgD) : pgdCells (ps ++ [q]) = pgdCells ps ++ [.int .i64 q.l, .slice q.ao q.n q.c] := by simp [pgdCells]
theorem pgdCells_at : ∀ (ps : List PgD) (t : Nat) (q : PgD), ps[t]? = some q → (pgdCells ps)[t * 2]? = some (.int .i64 q.l) ∧ (pgdCells ps)[t * 2 + 1]? = some (.slice q.ao q.n q.c) := by
  intro ps
  induction ps with
  | nil => intro t q h; simp at h
  | cons p l ih =>
    intro t q h
    cases t with
    | zero => simp at h; subst h; simp [pgdCells]
    | succ t =>
      have h1 := ih t q (by simpa using h)
      simp only [pgdCells, List.flatMap_cons] at h1 ⊢
      rw [show (t + 1) * 2 = t * 2 + 2 by omega, show t * 2 + 2 + 1 = (t * 2 + 1) + 2 by omega]
      simpa using h1
theorem Tryd.info24 : (Tryd.prog.info? 24).map (fun i => (i.zero, i.size, i.bytes)) = some (some (.agg #[.int .i64 0, .slice none 0 0]), 2, 32) := by kernel_rfl
theorem Tryd.size24 : (Tryd.prog.info? 24).map (·.size) = some 2 := by kernel_rfl
theorem Tryd.hasz24 : ((Tryd.prog.info? 24).bind (·.zero)).isSome = true := by kernel_rfl
def OwnP (w : World) (B : Nat) (ao : Option Addr) (cap : Nat) (ps : List PgD) : Prop :=
  w.ownsRow B 24 2 (.slice ao ps.length cap) ps.length (pgdCells ps) ∧ ps.length ≤ 1000
theorem ownP_nil (w : World) (B : Nat) : OwnP w B none 0 [] := ⟨World.ownsRow_nil _ _ _ _, by simp⟩
theorem OwnP.of_blocks {w w' : World} {B : Nat} {ao : Option Addr} {cap : Nat} {ps : List PgD} (h : OwnP w B ao cap ps) (hb : ∀ g, B ≤ g → g < w.heap.size → w'.heap[g]? = w.heap[g]?) : OwnP w' B ao cap ps :=
  ⟨ownsB h.1 fun g hg hl => hb g (h.1.lt g hg).1 hl, h.2⟩
theorem OwnP.row {w : World} {B : Nat} {ao : Option Addr} {cap : Nat} {ps : List PgD} (h : OwnP w B ao cap ps) (hp : 0 < ps.length) : ∃ b off, ao = some ⟨b, off, none⟩ ∧ b < w.heap.size ∧ ∀ i q, ps[i]? = some q → w.cell? ⟨b, off + i * 2, none⟩ = some (.int .i64 q.l) ∧ w.cell? ⟨b, off + i * 2 + 1, none⟩ = some (.slice q.ao q.n q.c) := by
  obtain ⟨h1, h2⟩ := h
  have h1' := h1
  rcases h1.2 with ⟨e, h0⟩ | ⟨g, c, cur, hv, hg, hh, h4, h5, h6, h7⟩
  · omega
  · simp only [Value.slice.injEq] at hv
    obtain ⟨rfl, _, rfl⟩ := hv
    refine ⟨g, 0, rfl, lt_of_block hh, fun i e hi => ?_⟩
    have hlt := (List.getElem?_eq_some_iff.1 hi).1
    obtain ⟨a1, a2⟩ := pgdCells_at ps i e hi
    rw [Nat.zero_add, h1'.cellAt (i * 2) (by omega), h1'.cellAt (i * 2 + 1) (by omega)]
    exact ⟨a1, a2⟩
/-- A list of one page is built. -/
theorem buildP {ops : Array Oper} {rest : List Oper} {a : Act} {w : World} {Q : Exit → Act → World → Prop} {d n : Tmp} {ty : TypeId} {pos : String} {af : Array Edge} (lsn : Int) (ao : Option Addr) (m c : Nat)
    (hev : a.eval (.tmp n) = pageV lsn ao m c)
    (h : wpList Tryd.prog ops Q rest (a.put (some d) (.slice (some ⟨w.heap.size, 0, none⟩) 1 1)) (w.alloc (pageBlock lsn ao m c))) :
    wpList Tryd.prog ops Q ({ dst := some d, op := .buildSlice 58 1 #[(0, .tmp n)], type := ty, pos := pos, after := af, guard := none } :: rest) a w := by
  refine Go.Great.wpList_buildRows rfl 58 24 #[(0, .tmp n)] 2 [pageV lsn ao m c] rfl (fun _ => n) w.heap.size rfl (some d) rfl Tryd.underlying58 Tryd.size24 Tryd.hasz24 (by omega) (by simp) (by simp) rfl (fun v hv => ?_) (fun i hi => ?_) h
  · simp at hv; subst hv; rfl
  · simp at hi; subst hi; exact hev
theorem cells_oneP {w : World} {g : Nat} {q : PgD} (h : w.heap[g]? = some (.cells (pgdCells [q]).toArray 24 (0, 0))) : ∀ j u, (pgdCells [q])[j]? = some u → w.cell? ((⟨g, 0, none⟩ : Addr).add j) = some u := by
  intro j u hj
  rw [Addr.add_lit, cell_row h, List.getElem?_toArray, Nat.zero_add]
  exact hj
/-- One page is appended to a list of our own. -/
theorem appendP {ops : Array Oper} {rest : List Oper} {a : Act} {w : World} {Q : Exit → Act → World → Prop} {d : Option Tmp} {x y : Operand} {ty : TypeId} {pos : String} {af : Array Edge} (B : Nat) (ao : Option Addr) (n c : Nat) (ps : List PgD) (q : PgD)
    (hx : a.eval x = .slice ao n c) (hn : ps.length = n) (hown : OwnP w B ao c ps) (hs : n < 900) (hy : a.eval y = .slice (some ⟨w.heap.size, 0, none⟩) 1 1) (hB : B ≤ w.heap.size)
    (h : ∀ ao' c' w', OwnP w' B ao' c' (ps ++ [q]) → (w.alloc (pageBlock q.l q.ao q.n q.c)).grownBy w' (Value.slice ao ps.length c).ownBlock → wpList Tryd.prog ops Q rest (a.put d (.slice ao' (n + 1) c')) w') :
    wpList Tryd.prog ops Q ({ dst := d, op := .call { callee := .builtin .append, args := #[x, y], argTypes := #[58, 58] }, type := ty, pos := pos, after := af, guard := none } :: rest) a (w.alloc (pageBlock q.l q.ao q.n q.c)) := by
  subst hn
  obtain ⟨i0, hi, hz0, hz1, hz2⟩ := info_parts Tryd.info24
  have hlies : (w.alloc (pageBlock q.l q.ao q.n q.c)).heap[w.heap.size]? = some (.cells (pgdCells [q]).toArray 24 (0, 0)) := heap_alloc_new _ _
  have hown1 : (w.alloc (pageBlock q.l q.ao q.n q.c)).ownsRow B 24 2 (.slice ao ps.length c) ps.length (pgdCells ps) := hown.1.alloc _
  refine wpList_append_own _ rfl x y 58 rfl B 24 i0 _ 2 32 Tryd.underlying58 hi hz0 hz1 hz2 rfl (by decide) _ ps.length (pgdCells ps) hx hown1 ⟨w.heap.size, 0, none⟩ 1 1 (pgdCells [q]) hy rfl (cells_oneP hlies) (by intro u hu; simp [pgdCells] at hu; rcases hu with rfl | rfl <;> rfl) (by unfold maxLen; omega) (by omega) (by simp; omega) ?_
  intro v' w' hown2 hgr _
  obtain ⟨ao', c', rfl⟩ := own_shapeE hown2
  refine h ao' c' w' ⟨?_, by simp; omega⟩ hgr
  rw [pgdCells_snoc, List.length_append]
  exact hown2
/-- One record is appended to a list of our own: what else stays. -/
theorem appendR {ops : Array Oper} {rest : List Oper} {a : Act} {w : World} {Q : Exit → Act → World → Prop} {d : Option Tmp} {x y : Operand} {ty : TypeId} {pos : String} {af : Array Edge} (B : Nat) (ao : Option Addr) (n c : Nat) (rs : List R) (r : R)
    (hx : a.eval x = .slice ao n c) (hn : rs.length = n) (hown : OwnR w B ao c rs) (hs : n < 900) (hy : a.eval y = .slice (some ⟨w.heap.size, 0, none⟩) 1 1) (hB : B ≤ w.heap.size)
    (h : ∀ ao' c' w', OwnR w' B ao' c' (rs ++ [r]) → (w.alloc (recCells r)).grownBy w' (Value.slice ao rs.length c).ownBlock → wpList Tryd.prog ops Q rest (a.put d (.slice ao' (n + 1) c')) w') :
    wpList Tryd.prog ops Q ({ dst := d, op := .call { callee := .builtin .append, args := #[x, y], argTypes := #[57, 57] }, type := ty, pos := pos, after := af, guard := none } :: rest) a (w.alloc (recCells r)) := by
  subst hn
  obtain ⟨i0, hi, hz0, hz1, hz2⟩ := info_parts Tryd.info60
  have hlies : (w.alloc (recCells r)).heap[w.heap.size]? = some (.cells (cellsOfRs [r]).toArray 60 (0, 0)) := heap_alloc_new _ _
  have hown1 : (w.alloc (recCells r)).ownsRow B 60 10 (.slice ao rs.length c) rs.length (cellsOfRs rs) := hown.1.alloc _
  refine wpList_append_own _ rfl x y 57 rfl B 60 i0 _ 10 72 Tryd.underlying57 hi hz0 hz1 hz2 rfl (by decide) _ rs.length (cellsOfRs rs) hx hown1 ⟨w.heap.size, 0, none⟩ 1 1 (cellsOfRs [r]) hy rfl (cells_one hlies) (oneCell_rs r) (by unfold maxLen; omega) (by omega) (by simp; omega) ?_
  intro v' w' hown2 hgr _
  obtain ⟨ao', c', rfl⟩ := own_shapeR hown2
  refine h ao' c' w' ⟨?_, by simp; omega⟩ hgr
  rw [cellsOfRs_snoc, List.length_append]
  exact hown2

-- ---- all of them at once ----
structure CR (w0 w : World) (s P : Nat) (lo : Option Addr) (len cap : Nat) (zs : List Int) (ns : Nat) (rs : List R) (rao : Option Addr) (rc : Nat) (ps : List PgD) (pao : Option Addr) (pc : Nat) (l : Int) (ao : Option Addr) (n c : Nat) (es : List (Int × Int)) : Prop where
  seq : SeqAt w s lo len cap zs ns
  recs : OwnR w (P + 1) rao rc rs
  pgs : OwnP w (P + 1) pao pc ps
  page : PBlk w P l ao n c
  ent : OwnE w (P + 1) ao c es
  many : es.length = n
  each : ∀ j q, ps[j]? = some q → OwnE w (P + 1) q.ao q.c (esAt rs j) ∧ q.l = (j : Int) ∧ (esAt rs j).length = q.n
  bel : Below w0.heap.size w0 w
  ord : w0.heap.size ≤ s ∧ s < P
section
variable {w0 w w' : World} {s P : Nat} {lo : Option Addr} {len cap : Nat} {zs : List Int} {ns ns' : Nat} {rs : List R} {rao rao' : Option Addr} {rc rc' : Nat} {ps : List PgD} {pao pao' : Option Addr} {pc pc' : Nat} {l : Int} {ao : Option Addr} {n c : Nat} {es : List (Int × Int)}
theorem CR.next (h : CR w0 w s P lo len cap zs ns rs rao rc ps pao pc l ao n c es) (hb : But s w w') (hs : SeqAt w' s lo len cap zs ns') : CR w0 w' s P lo len cap zs ns' rs rao rc ps pao pc l ao n c es := by
  have ho := h.ord
  have hblk : ∀ g, P + 1 ≤ g → g < w.heap.size → w'.heap[g]? = w.heap[g]? := fun g h1 h2 => hb.block g h2 (by omega)
  exact ⟨hs, h.recs.of_blocks hblk, h.pgs.of_blocks hblk, h.page.but hb (by omega), h.ent.of_blocks hblk, h.many, fun j q hj => ⟨(h.each j q hj).1.of_blocks hblk, (h.each j q hj).2⟩,
    ⟨hb.os.trans h.bel.os, hb.tape.trans h.bel.tape, hb.output.trans h.bel.output, Nat.le_trans h.bel.size hb.size, fun k hk => (hb.block k (Nat.lt_of_lt_of_le hk h.bel.size) (by omega)).trans (h.bel.block k hk)⟩, ho⟩
theorem CR.step (h : CR w0 w s P lo len cap zs ns rs rao rc ps pao pc l ao n c es) (hb : Below w.heap.size w w') : CR w0 w' s P lo len cap zs ns rs rao rc ps pao pc l ao n c es :=
  h.next (But.of_below hb) (h.seq.under hb (lt_of_block h.seq.lies))
theorem CR.grow (h : CR w0 w s P lo len cap zs ns rs rao rc ps pao pc l ao n c es) {row : Option Nat} (hg : w.grownBy w' row) (hr : ∀ g, row = some g → P + 1 ≤ g) : SeqAt w' s lo len cap zs ns ∧ PBlk w' P l ao n c ∧ Below w0.heap.size w0 w' := by
  have ho := h.ord
  have hb : Below (P + 1) w w' := (Below.refl _ _).grown hg h.page.lt hr
  exact ⟨h.seq.under hb (by omega), h.page.below hb (by omega), h.bel.grown hg h.bel.size fun k e => by have := hr k e; omega⟩
theorem CR.addR (h : CR w0 w s P lo len cap zs ns rs rao rc ps pao pc l ao n c es) {r : R} (ho : OwnR w' (P + 1) rao' rc' (rs ++ [r])) (hg : w.grownBy w' (Value.slice rao rs.length rc).ownBlock) (hps : ps.length ≤ rs.length) : CR w0 w' s P lo len cap zs ns (rs ++ [r]) rao' rc' ps pao pc l ao n c es := by
  obtain ⟨h1, h2, h3⟩ := h.grow hg fun g e => (h.recs.1.lt g e).1
  refine ⟨h1, ho, ⟨owns_grown h.pgs.1 h.recs.1 (by decide) hg, h.pgs.2⟩, h2, ⟨owns_grown h.ent.1 h.recs.1 (by decide) hg, h.ent.2⟩, h.many, fun j q hj => ?_, h3, h.ord⟩
  obtain ⟨e1, e2, e3⟩ := h.each j q hj
  have hj2 := (List.getElem?_eq_some_iff.1 hj).1
  rw [esAt_snoc rs r (by omega)]
  exact ⟨⟨owns_grown e1.1 h.recs.1 (by decide) hg, e1.2⟩, e2, e3⟩
theorem CR.addP (h : CR w0 w s P lo len cap zs ns rs rao rc ps pao pc l ao n c (esAt rs ps.length)) {q : PgD} (hq : q = ⟨(ps.length : Int), ao, n, c⟩) (ho : OwnP w' (P + 1) pao' pc' (ps ++ [q])) (hg : w.grownBy w' (Value.slice pao ps.length pc).ownBlock) : CR w0 w' s P lo len cap zs ns rs rao rc (ps ++ [q]) pao' pc' l ao n c (esAt rs ps.length) := by
  obtain ⟨h1, h2, h3⟩ := h.grow hg fun g e => (h.pgs.1.lt g e).1
  have he : OwnE w' (P + 1) ao c (esAt rs ps.length) := ⟨owns_grown h.ent.1 h.pgs.1 (by decide) hg, h.ent.2⟩
  refine ⟨h1, ⟨owns_grown h.recs.1 h.pgs.1 (by decide) hg, h.recs.2⟩, ho, h2, he, h.many, fun j q' hj => ?_, h3, h.ord⟩
  rw [List.getElem?_append] at hj
  split at hj
  · obtain ⟨e1, e2, e3⟩ := h.each j q' hj
    exact ⟨⟨owns_grown e1.1 h.pgs.1 (by decide) hg, e1.2⟩, e2, e3⟩
  · rename_i hge
    have hj0 : j - ps.length = 0 := by
      by_cases e : j - ps.length = 0
      · exact e
      · rw [List.getElem?_eq_none (by simp; omega)] at hj; simp at hj
    rw [hj0] at hj
    simp only [List.getElem?_cons_zero, Option.some.injEq] at hj
    subst hj
    obtain rfl : j = ps.length := by omega
    subst hq
    exact ⟨he, rfl, h.many⟩
theorem CR.setP (h : CR w0 w s P lo len cap zs ns rs rao rc ps pao pc l ao n c es) (l' : Int) (ao' : Option Addr) (n' c' : Nat) {es' : List (Int × Int)} (he : OwnE w (P + 1) ao' c' es') (hn : es'.length = n') : CR w0 ((w.setCell ⟨P, 0, none⟩ (.int .i64 l')).setCell ⟨P, 1, none⟩ (.slice ao' n' c')) s P lo len cap zs ns rs rao rc ps pao pc l' ao' n' c' es' := by
  have ho := h.ord
  have hblk : ∀ g, P + 1 ≤ g → g < w.heap.size → ((w.setCell ⟨P, 0, none⟩ (.int .i64 l')).setCell ⟨P, 1, none⟩ (.slice ao' n' c')).heap[g]? = w.heap[g]? := fun g h1 _ => by
    rw [Below.heap_setCell _ _ _ _ (show g ≠ (⟨P, 1, none⟩ : Addr).block by show g ≠ P; omega), Below.heap_setCell _ _ _ _ (show g ≠ (⟨P, 0, none⟩ : Addr).block by show g ≠ P; omega)]
  exact ⟨(h.seq.set ho.2 0 _).set ho.2 1 _, h.recs.of_blocks hblk, h.pgs.of_blocks hblk, h.page.put l' ao' n' c', he.of_blocks hblk, hn, fun j q hj => ⟨(h.each j q hj).1.of_blocks hblk, (h.each j q hj).2⟩,
    (h.bel.setCell (p := ⟨P, 0, none⟩) (show w0.heap.size ≤ P by omega) _).setCell (p := ⟨P, 1, none⟩) (show w0.heap.size ≤ P by omega) _, ho⟩
end
theorem over' {B C : Nat} {w w1 w2 : World} (h : Below B w w1) (h' : Below C w1 w2) (hB : B ≤ C) : Below B w w2 := h.trans (h'.mono hB)
theorem Cells10.grown {w w' : World} {B : Nat} {r : R} {row : Option Nat} (h : Cells10 w B r) (hg : w.grownBy w' row) (hr : some B ≠ row) : Cells10 w' B r := by
  have hb := hg.block B h.lt hr
  exact ⟨(World.cell?_of_block (w := w) hb).trans h.c0, (World.cell?_of_block (w := w) hb).trans h.c1, (World.cell?_of_block (w := w) hb).trans h.c2, (World.cell?_of_block (w := w) hb).trans h.c3, (World.cell?_of_block (w := w) hb).trans h.c4, (World.cell?_of_block (w := w) hb).trans h.c5, (World.cell?_of_block (w := w) hb).trans h.c6, (World.cell?_of_block (w := w) hb).trans h.c7, (World.cell?_of_block (w := w) hb).trans h.c8, (World.cell?_of_block (w := w) hb).trans h.c9, Nat.lt_of_lt_of_le h.lt hg.size⟩
end Go.Proofs.YtdijgpkcolpfoaaDoor
