/- Lemmas and contracts that the law stands on, joined: PgPut, PgRef, PgRef2, PgRef3, PgRem, PgRef4, PgRedo, PgRedo2, PgUndo, PgFirst8. -/
import Derived.Test.YtdijgpkcolpfoaaDoorJoin23
import Derived.Test.YtdijgpkcolpfoaaDoorJoin24
import Derived.Test.YtdijgpkcolpfoaaDoorJoin7
/- What page.Put and page.Remove answer, of keys that rise. -/
namespace Go.Proofs.YtdijgpkcolpfoaaDoor
open Go.RowKit
set_option linter.unusedVariables false

theorem boxes2 (w : World) (lsn : Int) (ao : Option Addr) (n c : Nat) {es : List (Int × Int)} (h : EntRow w ao es) : ∃ X, X = (w.alloc (pageBlock lsn ao n c)).alloc (pageBlock 0 none 0 0) ∧ PBlk X w.heap.size lsn ao n c ∧ PBlk X (w.heap.size + 1) 0 none 0 0 ∧ EntRow X ao es ∧ Below w.heap.size w X := by
  have hb1 := below_box w (pageBlock lsn ao n c)
  have hb2 := below_box (w.alloc (pageBlock lsn ao n c)) (pageBlock 0 none 0 0)
  have hsz : (w.alloc (pageBlock lsn ao n c)).heap.size = w.heap.size + 1 := by simp
  have hb := over hb1 hb2 hb1.size
  have hz := pblk_new (w.alloc (pageBlock lsn ao n c)) 0 none 0 0
  rw [hsz] at hz
  exact ⟨_, rfl, (pblk_new w lsn ao n c).step hb2, hz, h.below hb (Nat.le_refl _), hb⟩
theorem OwnE.shape {w : World} {B : Nat} {ao : Option Addr} {cap : Nat} {es : List (Int × Int)} (h : OwnE w B ao cap es) (hp : 0 < es.length) : ∃ g, ao = some ⟨g, 0, none⟩ ∧ B ≤ g ∧ g < w.heap.size := by
  rcases h.1.2 with ⟨h1, h2⟩ | ⟨g, c, cur, h1, h2, h3, _⟩
  · omega
  · simp only [Value.slice.injEq] at h1
    exact ⟨g, h1.1, h2, lt_of_block h3⟩
theorem OwnE.ne_page {w : World} {B P : Nat} {g : Nat} {cap : Nat} {es : List (Int × Int)} {z : Array Value} (h : OwnE w B (some ⟨g, 0, none⟩) cap es) (hz : w.heap[P]? = some (.cells z 24 (0, 0))) : g ≠ P := by
  rcases h.1.2 with ⟨h1, h2⟩ | ⟨g', c, cur, h1, h2, h3, _⟩
  · simp at h1
  · simp only [Value.slice.injEq, Option.some.injEq, Addr.mk.injEq] at h1
    obtain ⟨⟨rfl, _⟩, _⟩ := h1
    rintro rfl
    rw [hz] at h3
    simp at h3
theorem entCells_set (es : List (Int × Int)) (k : Nat) (x y v : Int) (h : es[k]? = some (x, y)) : entCells (es.set k (x, v)) = (entCells es).set (k * 2 + 1) (.int .i64 v) := by
  induction es generalizing k with
  | nil => simp at h
  | cons e r ih =>
    cases k with
    | zero =>
      simp at h
      subst h
      rfl
    | succ k =>
      have := ih k (by simpa using h)
      rw [List.set_cons_succ]
      show Value.int .i64 e.1 :: Value.int .i64 e.2 :: entCells (r.set k (x, v)) = (Value.int .i64 e.1 :: Value.int .i64 e.2 :: entCells r).set ((k + 1) * 2 + 1) (.int .i64 v)
      rw [this, show (k + 1) * 2 + 1 = (k * 2 + 1) + 1 + 1 by omega, List.set_cons_succ, List.set_cons_succ]
theorem OwnE.setVal {w : World} {B g : Nat} {cap : Nat} {es : List (Int × Int)} (h : OwnE w B (some ⟨g, 0, none⟩) cap es) {k : Nat} {x y : Int} (he : es[k]? = some (x, y)) (v : Int) : OwnE (w.setCell ⟨g, k * 2 + 1, none⟩ (.int .i64 v)) B (some ⟨g, 0, none⟩) cap (es.set k (x, v)) := by
  obtain ⟨h1, h2⟩ := h
  have e := (h1.stored (k * 2 + 1) (.int .i64 v)).1
  refine ⟨?_, by simpa using h2⟩
  rw [entCells_set es k x y v he, List.length_set]
  exact e
theorem OwnE.cellV {w : World} {B g : Nat} {cap : Nat} {es : List (Int × Int)} (h : OwnE w B (some ⟨g, 0, none⟩) cap es) {k : Nat} {x y : Int} (he : es[k]? = some (x, y)) : w.cell? ⟨g, k * 2 + 1, none⟩ = some (.int .i64 y) ∧ w.frozen? ⟨g, k * 2 + 1, none⟩ = false := by
  have hk := (List.getElem?_eq_some_iff.1 he).1
  refine ⟨?_, h.1.frozenAt _⟩
  rw [h.1.cellAt (k * 2 + 1) (by omega)]
  exact (entCells_at es k (x, y) he).2
theorem OwnE.setFar {w : World} {B g : Nat} {ao : Option Addr} {cap : Nat} {es : List (Int × Int)} (h : OwnE w B ao cap es) (hg : g < B) (i : Nat) (v : Value) : OwnE (w.setCell ⟨g, i, none⟩ v) B ao cap es := h.of_blocks fun k hk _ => Below.heap_setCell _ _ _ _ (by show k ≠ g; omega)
theorem entCells_setK (es : List (Int × Int)) (k : Nat) (x y v : Int) (h : es[k]? = some (x, y)) : entCells (es.set k (v, y)) = (entCells es).set (k * 2) (.int .i64 v) := by
  induction es generalizing k with
  | nil => simp at h
  | cons e r ih =>
    cases k with
    | zero =>
      simp at h
      subst h
      rfl
    | succ k =>
      have := ih k (by simpa using h)
      rw [List.set_cons_succ]
      show Value.int .i64 e.1 :: Value.int .i64 e.2 :: entCells (r.set k (v, y)) = (Value.int .i64 e.1 :: Value.int .i64 e.2 :: entCells r).set ((k + 1) * 2) (.int .i64 v)
      rw [this, show (k + 1) * 2 = k * 2 + 1 + 1 by omega, List.set_cons_succ, List.set_cons_succ]
theorem OwnE.setKey {w : World} {B g : Nat} {cap : Nat} {es : List (Int × Int)} (h : OwnE w B (some ⟨g, 0, none⟩) cap es) {k : Nat} {x y : Int} (he : es[k]? = some (x, y)) (v : Int) : OwnE (w.setCell ⟨g, k * 2, none⟩ (.int .i64 v)) B (some ⟨g, 0, none⟩) cap (es.set k (v, y)) := by
  obtain ⟨h1, h2⟩ := h
  have e := (h1.stored (k * 2) (.int .i64 v)).1
  refine ⟨?_, by simpa using h2⟩
  rw [entCells_setK es k x y v he, List.length_set]
  exact e
theorem OwnE.cellK {w : World} {B g : Nat} {cap : Nat} {es : List (Int × Int)} (h : OwnE w B (some ⟨g, 0, none⟩) cap es) {k : Nat} {x y : Int} (he : es[k]? = some (x, y)) : w.cell? ⟨g, k * 2, none⟩ = some (.int .i64 x) ∧ w.frozen? ⟨g, k * 2, none⟩ = false := by
  have hk := (List.getElem?_eq_some_iff.1 he).1
  refine ⟨?_, h.1.frozenAt _⟩
  rw [h.1.cellAt (k * 2) (by omega)]
  exact (entCells_at es k (x, y) he).1
set_option maxRecDepth 100000 in
set_option maxHeartbeats 2000000 in
theorem put_yes (lsn : Int) (ao : Option Addr) (n c : Nat) (es : List (Int × Int)) (key v : Int) (w : World) (h : EntRow w ao es) (hu : Up es) (hn : es.length = n) (hh : hasE es key = true) :
    Calls Tryd.prog 21 #[pageV lsn ao n c, .int .i64 key, .int .i64 v] w fun r w' => ∃ ao' c', r = .returned (.tuple #[pageV lsn ao' n c', .bool true]) ∧ OwnE w' w.heap.size ao' c' (insE key v es) ∧ Below w.heap.size w w' := by
  have hs := h.1
  rw [hn] at hs
  obtain ⟨X, hX, hp, hz, hrow, hb⟩ := boxes2 w lsn ao n c h
  obtain ⟨k, e, he, hk, hi⟩ := idx_key hh
  obtain ⟨x, y⟩ := e
  simp only at hk
  subst hk
  have hlt : k < n := by rw [← hn]; exact (List.getElem?_eq_some_iff.1 he).1
  have hki : (k : Int) < (n : Int) := by omega
  have hk0 : ¬ ((k : Int) < 0) := by omega
  have hk1 : (0 : Int) ≤ (k : Int) := by omega
  have HS := hide (ins_set (v := v) hu he rfl)
  have HE := hide he
  have HN := hide hn
  have HX := hide hX
  obtain ⟨B3, hB3⟩ : ∃ B3, B3 = w.heap.size := ⟨_, rfl⟩
  have HB3 := hide hB3
  rw [← hB3] at hp hz
  obtain ⟨B6, hB6⟩ : ∃ B6, B6 = B3 + 1 := ⟨_, rfl⟩
  have HB6 := hide hB6
  rw [← hB6] at hz
  have HLO : Hid (w.heap.size ≤ B6) := by show w.heap.size ≤ B6; omega
  have HLX := hide hb.size
  have HI := hide hi
  have HP := hide hp
  have HZ := hide hz
  have HR := hide hrow
  have HB := hide hb
  unfold pageBlock at HX
  unfold pageV
  clear hX hp hz hrow hb he hi hn hh hB3 hB6 h hu
  go_enter Tryd.func21, Tryd.ntmps21
  go_upto_region 1 with fail
  rw [← HX.out, ← HB3.out, ← HB6.out]
  have k1 := HP.out.c1
  go_wp2_with fail
  refine (clone_any ao n c es _ HR.out HN.out).mono ?_
  rintro e x1 ⟨a1, c1, rfl, ho, hb⟩
  have HO := hide ho
  replace HP := hide (HP.out.step hb)
  replace HZ := hide (HZ.out.step hb)
  replace HR := hide (HR.out.step hb)
  replace HB := hide (over HB.out hb HB.out.size)
  clear ho hb k1
  have k0 := HP.out.c0
  have k1 := HP.out.c1
  go_wp2_with fail
  refine (find_any lsn ao n c es x k _ HR.out HN.out HI.out).mono ?_
  rintro e x2 ⟨rfl, hb⟩
  replace HO := hide (HO.out.step hb)
  replace HP := hide (HP.out.step hb)
  replace HZ := hide (HZ.out.step hb)
  replace HB := hide (over HB.out hb HB.out.size)
  obtain ⟨g, rfl, hg1, hg2⟩ := HO.out.shape (by rw [HN.out]; omega)
  obtain ⟨v1, v2⟩ := HO.out.cellV HE.out
  have HGP := hide (HO.out.ne_page HP.out)
  have HGZ := hide (HO.out.ne_page HZ.out)
  have HGW : Hid (w.heap.size ≤ g) := by show w.heap.size ≤ g; have := HLX.out; omega
  clear hb k0 k1 hg1 hg2
  go_upto_region 5 with fail
  clear v1 v2
  replace HO := hide ((HO.out.setVal HE.out v).mono HLX.out)
  rw [← HS.out] at HO
  replace HP := hide (HP.out.far HGP.out (k * 2 + 1) (.int .i64 v))
  replace HZ := hide (HZ.out.far HGZ.out (k * 2 + 1) (.int .i64 v))
  replace HB := hide (HB.out.setCell (p := ⟨g, k * 2 + 1, none⟩) HGW.out (.int .i64 v))
  obtain ⟨Y, hY⟩ : ∃ Y, Y = x2.setCell ⟨g, k * 2 + 1, none⟩ (.int .i64 v) := ⟨_, rfl⟩
  rw [← hY] at HO HP HZ HB ⊢
  clear hY
  have k0 := HP.out.c0
  have z0 := HZ.out.c0
  have z1 := HZ.out.c1
  have g0 := HZ.out.fz 0
  have g1 := HZ.out.fz 1
  go_wp2_with fail
  exact bodyPost_ret (v := .tuple #[.agg #[.int .i64 lsn, .slice (some ⟨g, 0, none⟩) n c1], .bool true]) (by simp [results, Tryd.results21, go_sem, z0, z1]) rfl ⟨_, c1, rfl, (HO.out.setPage HZ.out 0 _).setPage (set_block HZ.out 0 _) 1 _, (HB.out.setCell (p := ⟨B6, 0, none⟩) HLO.out _).setCell (p := ⟨B6, 1, none⟩) HLO.out _⟩
set_option maxRecDepth 100000 in
set_option maxHeartbeats 2000000 in
theorem put_new (lsn : Int) (ao : Option Addr) (n c : Nat) (es : List (Int × Int)) (key v : Int) (w : World) (h : EntRow w ao es) (hu : Up es) (hn : es.length = n) (hh : hasE es key = false) (hn20 : n < 20) :
    Calls Tryd.prog 21 #[pageV lsn ao n c, .int .i64 key, .int .i64 v] w fun r w' => ∃ ao' c', r = .returned (.tuple #[pageV lsn ao' (n + 1) c', .bool true]) ∧ OwnE w' w.heap.size ao' c' (insE key v es) ∧ Below w.heap.size w w' := by
  obtain ⟨X, hX, hp, hz, hrow, hb⟩ := boxes2 w lsn ao n c h
  obtain ⟨q, hq, hpl, hins⟩ := idx_place hu hh
  have hni : ((20 : Int) ≤ (n : Int)) = False := by simp; omega
  have hni' : decide ((20 : Int) ≤ (n : Int)) = false := by simp; omega
  have HS := hide (hins v)
  have HQ := hide hq
  have HPL := hide hpl
  have HN := hide hn
  have HX := hide hX
  obtain ⟨B3, hB3⟩ : ∃ B3, B3 = w.heap.size := ⟨_, rfl⟩
  have HB3 := hide hB3
  rw [← hB3] at hp hz
  obtain ⟨B6, hB6⟩ : ∃ B6, B6 = B3 + 1 := ⟨_, rfl⟩
  have HB6 := hide hB6
  rw [← hB6] at hz
  have HLO : Hid (w.heap.size ≤ B6) := by show w.heap.size ≤ B6; omega
  have HLX := hide hb.size
  have HL3 : Hid (B3 < X.heap.size) := hp.lt
  have HL6 : Hid (B6 < X.heap.size) := hz.lt
  have HXX : Hid (X.heap.size ≤ X.heap.size) := Nat.le_refl _
  have HI := hide (idx_no hh)
  have HP := hide hp
  have HZ := hide hz
  have HR := hide hrow
  have HB := hide hb
  unfold pageBlock at HX
  unfold pageV
  clear hX hp hz hrow hb hq hpl hins hn hh hB3 hB6 h hu
  go_enter Tryd.func21, Tryd.ntmps21
  go_upto_region 1 with fail
  rw [← HX.out, ← HB3.out, ← HB6.out]
  have k1 := HP.out.c1
  go_wp2_with fail
  refine (clone_any ao n c es _ HR.out HN.out).mono ?_
  rintro e x1 ⟨a1, c1, rfl, ho, hb⟩
  have HO := hide ho
  replace HXX := hide hb.size
  replace HP := hide (HP.out.step hb)
  replace HZ := hide (HZ.out.step hb)
  replace HR := hide (HR.out.step hb)
  replace HB := hide (over HB.out hb HB.out.size)
  clear ho hb k1
  have k0 := HP.out.c0
  have k1 := HP.out.c1
  go_wp2_with fail
  refine (find_any lsn ao n c es key (-1) _ HR.out HN.out HI.out).mono ?_
  rintro e x2 ⟨rfl, hb⟩
  replace HXX := hide (Nat.le_trans HXX.out hb.size)
  replace HO := hide (HO.out.step hb)
  replace HP := hide (HP.out.step hb)
  replace HZ := hide (HZ.out.step hb)
  replace HR := hide (HR.out.step hb)
  replace HB := hide (over HB.out hb HB.out.size)
  clear hb k0 k1
  have k0 := HP.out.c0
  have k1 := HP.out.c1
  go_wp2_with fail
  refine (place_any lsn ao n c es key q _ HR.out HN.out (by rw [← HN.out]; exact HPL.out)).mono ?_
  rintro e x3 ⟨rfl, hb⟩
  replace HXX := hide (Nat.le_trans HXX.out hb.size)
  replace HO := hide (HO.out.step hb)
  replace HP := hide (HP.out.step hb)
  replace HZ := hide (HZ.out.step hb)
  replace HB := hide (over HB.out hb HB.out.size)
  clear hb k0 k1
  go_wp2_with (first | (with_reducible refine buildE (key, v) ?_ ?_; rfl))
  refine (insert_any X.heap.size a1 n c1 es q (key, v) x3 HO.out HN.out (by rw [← HN.out]; exact HQ.out) (by omega) HXX.out).mono ?_
  rintro e x4 ⟨a4, c4, rfl, ho, hb⟩
  rw [← HS.out] at ho
  replace HO := hide (ho.mono HLX.out)
  replace HP := hide (HP.out.below hb HL3.out)
  replace HZ := hide (HZ.out.below hb HL6.out)
  replace HB := hide (HB.out.trans (hb.mono HLX.out))
  clear ho hb
  have k0 := HP.out.c0
  have z0 := HZ.out.c0
  have z1 := HZ.out.c1
  have g0 := HZ.out.fz 0
  have g1 := HZ.out.fz 1
  go_wp2_with fail
  exact bodyPost_ret (v := .tuple #[.agg #[.int .i64 lsn, .slice a4 (n + 1) c4], .bool true]) (by simp [results, Tryd.results21, go_sem, z0, z1]) rfl ⟨a4, c4, rfl, (HO.out.setPage HZ.out 0 _).setPage (set_block HZ.out 0 _) 1 _, (HB.out.setCell (p := ⟨B6, 0, none⟩) HLO.out _).setCell (p := ⟨B6, 1, none⟩) HLO.out _⟩
set_option maxRecDepth 100000 in
set_option maxHeartbeats 2000000 in
theorem put_full (lsn : Int) (ao : Option Addr) (n c : Nat) (es : List (Int × Int)) (key v : Int) (w : World) (h : EntRow w ao es) (hn : es.length = n) (hh : hasE es key = false) (hn20 : 20 ≤ n) :
    Calls Tryd.prog 21 #[pageV lsn ao n c, .int .i64 key, .int .i64 v] w fun r w' => r = .returned (.tuple #[pageV 0 none 0 0, .bool false]) ∧ Below w.heap.size w w' := by
  obtain ⟨X, hX, hp, hz, hrow, hb⟩ := boxes2 w lsn ao n c h
  have hni : (20 : Int) ≤ (n : Int) := by omega
  have HN := hide hn
  have HX := hide hX
  obtain ⟨B3, hB3⟩ : ∃ B3, B3 = w.heap.size := ⟨_, rfl⟩
  have HB3 := hide hB3
  rw [← hB3] at hp hz
  obtain ⟨B6, hB6⟩ : ∃ B6, B6 = B3 + 1 := ⟨_, rfl⟩
  have HB6 := hide hB6
  rw [← hB6] at hz
  have HLO : Hid (w.heap.size ≤ B6) := by show w.heap.size ≤ B6; omega
  have HI := hide (idx_no hh)
  have HP := hide hp
  have HZ := hide hz
  have HR := hide hrow
  have HB := hide hb
  unfold pageBlock at HX
  unfold pageV
  clear hX hp hz hrow hb hn hh hB3 hB6 h
  go_enter Tryd.func21, Tryd.ntmps21
  go_upto_region 1 with fail
  rw [← HX.out, ← HB3.out, ← HB6.out]
  have k1 := HP.out.c1
  go_wp2_with fail
  refine (clone_any ao n c es _ HR.out HN.out).mono ?_
  rintro e x1 ⟨a1, c1, rfl, ho, hb⟩
  replace HP := hide (HP.out.step hb)
  replace HZ := hide (HZ.out.step hb)
  replace HR := hide (HR.out.step hb)
  replace HB := hide (over HB.out hb HB.out.size)
  clear ho hb k1
  have k0 := HP.out.c0
  have k1 := HP.out.c1
  go_wp2_with fail
  refine (find_any lsn ao n c es key (-1) _ HR.out HN.out HI.out).mono ?_
  rintro e x2 ⟨rfl, hb⟩
  replace HZ := hide (HZ.out.step hb)
  replace HB := hide (over HB.out hb HB.out.size)
  clear hb k0 k1
  have z0 := HZ.out.c0
  have z1 := HZ.out.c1
  have g0 := HZ.out.fz 0
  have g1 := HZ.out.fz 1
  go_wp2_with fail
  exact bodyPost_ret (v := .tuple #[.agg #[.int .i64 0, .slice none 0 0], .bool false]) (by simp [results, Tryd.results21, go_sem, z0, z1]) rfl ⟨rfl, (HB.out.setCell (p := ⟨B6, 0, none⟩) HLO.out _).setCell (p := ⟨B6, 1, none⟩) HLO.out _⟩
end Go.Proofs.YtdijgpkcolpfoaaDoor

/- What the document's own Put and Remove answer, of keys that rise. -/
namespace Go.Proofs.YtdijgpkcolpfoaaDoor
open Go.RowKit
set_option linter.unusedVariables false

/-- One entry is put behind the others of a page that is being filled: the world behind the store, and what stays. -/
theorem PageAt.more {w0 w : World} {P : Nat} {lsn : Int} {ao : Option Addr} {n c : Nat} {es : List (Int × Int)} (h : PageAt w0 w P lsn ao n c es) (hn : n ≤ 900) (e : Int × Int) :
    ∃ ao' c' w1, (Builtin.append_ #[22, 22] 22 #[.slice ao n c, .slice (some ⟨w.heap.size, 0, none⟩) 1 1]).run Tryd.prog (w.alloc (entBlock e)) = .ok (.slice ao' (n + 1) c') w1 ∧ w1.cell? ⟨P, 1, none⟩ = some (.slice ao n c) ∧ w1.frozen? ⟨P, 1, none⟩ = false ∧ PageAt w0 (w1.setCell ⟨P, 1, none⟩ (.slice ao' (n + 1) c')) P lsn ao' (n + 1) c' (es ++ [e]) ∧ ∀ Q l2 bo m d, PBlk w Q l2 bo m d → Q ≠ P → PBlk (w1.setCell ⟨P, 1, none⟩ (.slice ao' (n + 1) c')) Q l2 bo m d := by
  obtain ⟨ao', c', w1, h1, h2, h3, h4, h5⟩ := h.append hn e 22
  exact ⟨ao', c', w1, h1, h2, h3, h4, fun Q l2 bo m d hq hne => (h5 Q _ hq hne).trans hq⟩
theorem PageAt.drew {w0 w : World} {P : Nat} {lsn : Int} {ao : Option Addr} {n c : Nat} {es : List (Int × Int)} (h : PageAt w0 w P lsn ao n c es) : PageAt w0 w.drew P lsn ao n c es := h.step (below_drew (Below.refl _ _))
theorem PBlk.drew {w : World} {P : Nat} {lsn : Int} {ao : Option Addr} {n c : Nat} (h : PBlk w P lsn ao n c) : PBlk w.drew P lsn ao n c := h
set_option maxRecDepth 100000 in
set_option maxHeartbeats 4000000 in
theorem rrem_any (lsn : Int) (ao : Option Addr) (n c : Nat) (es : List (Int × Int)) (key : Int) (w : World) (h : EntRow w ao es) (hn : es.length = n) (hn9 : n ≤ 100) :
    Calls Tryd.prog 24 #[pageV lsn ao n c, .int .i64 key] w fun r w' => ∃ ao' m c', r = .returned (.tuple #[pageV lsn ao' m c', .bool (hasE es key)]) ∧ (remE key es).length = m ∧ OwnE w' w.heap.size ao' c' (remE key es) ∧ Below w.heap.size w w' := by
  obtain ⟨X, hX, hp, hz, hrow, hb⟩ := boxes2 w lsn ao n c h
  have HN := hide hn
  have HX := hide hX
  obtain ⟨B3, hB3⟩ : ∃ B3, B3 = w.heap.size := ⟨_, rfl⟩
  have HB3 := hide hB3
  rw [← hB3] at hp hz
  obtain ⟨B6, hB6⟩ : ∃ B6, B6 = B3 + 1 := ⟨_, rfl⟩
  have HB6 := hide hB6
  rw [← hB6] at hz
  have H36 : Hid (¬ B3 = B6) := by show ¬ B3 = B6; omega
  have HLO : Hid (w.heap.size ≤ B6) := by show w.heap.size ≤ B6; omega
  have HP := hide hp
  have HZ := hide hz
  have HR := hide hrow
  have HRW := hide h
  have HB := hide hb
  unfold pageBlock at HX
  unfold pageV
  clear hX hp hz hrow hb hn hB3 hB6 h
  go_enter Tryd.func24, Tryd.ntmps24
  go_upto_region 1 with fail
  rw [← HX.out, ← HB3.out, ← HB6.out]
  clear HX HB3 HB6
  have k0 := HP.out.c0
  have k1 := HP.out.c1
  go_wp2_with fail
  refine (rfind_any lsn ao n c es key _ HR.out HN.out).mono ?_
  rintro e x1 ⟨rfl, hb⟩
  replace HP := hide (HP.out.step hb)
  replace HZ := hide (HZ.out.step hb)
  replace HR := hide (HR.out.step hb)
  replace HB := hide (over HB.out hb HB.out.size)
  clear hb k0 k1
  obtain ⟨V0, hV0⟩ : ∃ V0, V0 = (valE es key).getD 0 := ⟨_, rfl⟩
  rw [← hV0]
  clear hV0
  obtain ⟨HH, hHH⟩ : ∃ HH, HH = hasE es key := ⟨_, rfl⟩
  rw [← hHH]
  have HHH := hide hHH
  clear hHH
  have k0 := HP.out.c0
  have k1 := HP.out.c1
  have hbx := below_box x1 (pageBlock lsn none 0 0)
  have HPA : Hid (PageAt w (x1.alloc (pageBlock lsn none 0 0)) x1.heap.size lsn none 0 0 []) := ⟨heap_alloc_new _ _, ownE_nil _ _, rfl, HB.out.size, over HB.out hbx HB.out.size⟩
  have HP1 := hide (HP.out.step hbx)
  have HZ1 := hide (HZ.out.step hbx)
  have HR1 := hide (HR.out.step hbx)
  have HPN : Hid (x1.heap.size ≠ B3 ∧ x1.heap.size ≠ B6) := ⟨by have := HP.out.lt; omega, by have := HZ.out.lt; omega⟩
  unfold pageBlock at HPA HP1 HZ1 HR1
  clear hbx
  go_upto_region 3 with fail
  obtain ⟨Y, hY⟩ : ∃ Y, Y = x1.alloc (.cells #[.int .i64 lsn, .slice none 0 0] 24) := ⟨_, rfl⟩
  rw [← hY] at HPA HP1 HZ1 HR1 ⊢
  obtain ⟨P, hP⟩ : ∃ P, P = x1.heap.size := ⟨_, rfl⟩
  rw [← hP] at HPA HPN ⊢
  clear hY hP k0 k1 HP HZ HR HB
  go_wp2_with fail
  go_loopw [9] (fun i wr => ∃ (k m : Nat) (a1 : Option Addr) (c1 : Nat), k ≤ n ∧ i = .int .i64 k ∧ m ≤ k ∧ PageAt w wr P lsn a1 m c1 (remE key (es.take k)) ∧ PBlk wr B3 lsn ao n c ∧ PBlk wr B6 0 none 0 0) (fun i _ => n - (intOf i).toNat)
  case atStart => exact ⟨0, 0, none, 0, by omega, rfl, by omega, HPA.out, HP1.out, HZ1.out⟩
  case round =>
    clear HPA HP1 HZ1 HR1
    obtain ⟨k, m, a1, c1, hk, rfl, hmk, hpa, hp, hz⟩ := hrel
    have HPA := hide hpa
    have HP := hide hp
    have HZ := hide hz
    have HR := hide (HRW.out.below hpa.bel (Nat.le_refl _))
    clear hpa hp hz
    have k1 := HP.out.c1
    by_cases hlt : k < n
    · have hki : (k : Int) < (n : Int) := by omega
      obtain ⟨e, he⟩ : ∃ e, es[k]? = some e := ⟨es[k]'(by rw [HN.out]; exact hlt), List.getElem?_eq_getElem _⟩
      obtain ⟨b, off, rfl, hlb, hc⟩ := HR.out.2 (by rw [HN.out]; omega)
      obtain ⟨d1, d2⟩ := hc k e he
      by_cases hx : e.1 = key
      · have HT := hide (rem_skip he hx)
        obtain ⟨x, y⟩ := e
        simp only at d1 d2 hx
        clear hc he hlb
        subst hx
        go_wp2_with fail
        go_roundw
        case rel => exact ⟨k + 1, m, a1, c1, by omega, by go_num, by omega, by rw [HT.out]; exact HPA.out, HP.out, HZ.out⟩
        case measure => simp [intOf]; omega
      · have HT := hide (rem_keep he hx)
        obtain ⟨a2, c2, w3, hrun, hc3, hf3, hpa, hoth⟩ := HPA.out.drew.more (by omega) e
        rw [← HT.out] at hpa
        obtain ⟨x, y⟩ := e
        have HRUN : Hid ((Builtin.append_ #[22, 22] 22 #[.slice a1 m c1, .slice (some ⟨wr.heap.size, 0, none⟩) 1 1]).run Tryd.prog (wr.alloc (.cells #[.int .i64 x, .int .i64 y] 65)).drew = .ok (.slice a2 (m + 1) c2) w3) := hrun
        have HPA2 := hide hpa
        have HP2 := hide (hoth _ _ _ _ _ HP.out.drew HPN.out.1.symm)
        have HZ2 := hide (hoth _ _ _ _ _ HZ.out.drew HPN.out.2.symm)
        simp only at d1 d2 hx
        have hx' : (x != key) = true := by simpa using hx
        obtain ⟨c0', c1', f1', cl'⟩ := HPA.out.cell
        clear hc he hlb hrun hpa hoth
        go_wp2_with fail
        apply dup
        case k =>
          intro TAIL
          go_region_law (first | (refine step_append_e (by rfl) (.tmp 35) (.tmp 41) 22 (by rfl) _ _ (by rfl) (by rfl) HRUN.out ?_))
          all_goals exact TAIL.out
        case h =>
          clear hc3 hf3 c0' c1' f1' cl' d1 d2 k1
          go_wp2_with fail
          go_roundw
          case rel => exact ⟨k + 1, m + 1, a2, c2, by omega, by go_num, by omega, HPA2.out, HP2.out, HZ2.out⟩
          case measure => simp [intOf]; omega
    · have hki : decide ((k : Int) < (n : Int)) = false := by simp; omega
      have hkn : k = n := by omega
      subst hkn
      obtain ⟨c0, c1', f1, cl⟩ := HPA.out.cell
      have z0 := HZ.out.c0
      have z1 := HZ.out.c1
      have g0 := HZ.out.fz 0
      have g1 := HZ.out.fz 1
      have HTK : Hid (es.take k = es) := List.take_of_length_le (by rw [HN.out]; exact Nat.le_refl _)
      have HM2 : Hid ((remE key es).length = m) := by show _ = _; rw [← HTK.out]; exact HPA.out.num
      have HO2 : Hid (OwnE wr w.heap.size a1 c1 (remE key es)) := by have := HPA.out.own; rw [HTK.out] at this; exact this
      have HB2 := hide HPA.out.bel
      go_wp2_with fail
      exact bodyPost_ret (v := .tuple #[.agg #[.int .i64 lsn, .slice a1 m c1], .bool HH]) (by simp [results, Tryd.results24, go_sem, z0, z1]) rfl ⟨a1, m, c1, by rw [← HHH.out], HM2.out, (HO2.out.setPage HZ.out 0 _).setPage (set_block HZ.out 0 _) 1 _, (HB2.out.setCell (p := ⟨B6, 0, none⟩) HLO.out _).setCell (p := ⟨B6, 1, none⟩) HLO.out _⟩
end Go.Proofs.YtdijgpkcolpfoaaDoor

/- What the document's own Put answers, of keys that rise. -/
namespace Go.Proofs.YtdijgpkcolpfoaaDoor
open Go.RowKit
set_option linter.unusedVariables false

set_option maxRecDepth 100000 in
set_option maxHeartbeats 2000000 in
theorem rput_full (lsn : Int) (ao : Option Addr) (n c : Nat) (es : List (Int × Int)) (key v : Int) (w : World) (h : EntRow w ao es) (hn : es.length = n) (hh : hasE es key = false) (hn20 : 20 ≤ n) :
    Calls Tryd.prog 22 #[pageV lsn ao n c, .int .i64 key, .int .i64 v] w fun r w' => r = .returned (.tuple #[pageV 0 none 0 0, .bool false]) ∧ Below w.heap.size w w' := by
  obtain ⟨X, hX, hp, hz, hrow, hb⟩ := boxes2 w lsn ao n c h
  have hni : (20 : Int) ≤ (n : Int) := by omega
  have HX := hide hX
  obtain ⟨B3, hB3⟩ : ∃ B3, B3 = w.heap.size := ⟨_, rfl⟩
  have HB3 := hide hB3
  rw [← hB3] at hp hz
  obtain ⟨B6, hB6⟩ : ∃ B6, B6 = B3 + 1 := ⟨_, rfl⟩
  have HB6 := hide hB6
  rw [← hB6] at hz
  have HLO : Hid (w.heap.size ≤ B6) := by show w.heap.size ≤ B6; omega
  have HF := hide (rfind_any lsn ao n c es key X hrow hn)
  rw [hh] at HF
  have HP := hide hp
  have HZ := hide hz
  have HB := hide hb
  unfold pageBlock at HX
  unfold pageV
  clear hX hp hz hrow hb hn hh hB3 hB6 h
  go_enter Tryd.func22, Tryd.ntmps22
  go_upto_region 1 with fail
  rw [← HX.out, ← HB3.out, ← HB6.out]
  have k0 := HP.out.c0
  have k1 := HP.out.c1
  go_wp2_with fail
  refine HF.out.mono ?_
  rintro e x1 ⟨rfl, hb⟩
  replace HP := hide (HP.out.step hb)
  replace HZ := hide (HZ.out.step hb)
  replace HB := hide (over HB.out hb HB.out.size)
  clear hb k0 k1
  have k1 := HP.out.c1
  have z0 := HZ.out.c0
  have z1 := HZ.out.c1
  have g0 := HZ.out.fz 0
  have g1 := HZ.out.fz 1
  go_wp2_with fail
  exact bodyPost_ret (v := .tuple #[.agg #[.int .i64 0, .slice none 0 0], .bool false]) (by simp [results, Tryd.results22, go_sem, z0, z1]) rfl ⟨rfl, (HB.out.setCell (p := ⟨B6, 0, none⟩) HLO.out _).setCell (p := ⟨B6, 1, none⟩) HLO.out _⟩
set_option maxRecDepth 100000 in
set_option maxHeartbeats 8000000 in
theorem rput_has (lsn : Int) (ao : Option Addr) (n c : Nat) (es : List (Int × Int)) (key v : Int) (w : World) (h : EntRow w ao es) (hu : Up es) (hn : es.length = n) (hn9 : n ≤ 100) (hroom : hasE es key = true) :
    Calls Tryd.prog 22 #[pageV lsn ao n c, .int .i64 key, .int .i64 v] w fun r w' => ∃ ao' m c', r = .returned (.tuple #[pageV lsn ao' m c', .bool true]) ∧ (insE key v es).length = m ∧ OwnE w' w.heap.size ao' c' (insE key v es) ∧ Below w.heap.size w w' := by
  obtain ⟨X, hX, hp, hz, hrow, hb⟩ := boxes2 w lsn ao n c h
  have HN := hide hn
  have HU := hide hu
  have HX := hide hX
  obtain ⟨B3, hB3⟩ : ∃ B3, B3 = w.heap.size := ⟨_, rfl⟩
  have HB3 := hide hB3
  rw [← hB3] at hp hz
  obtain ⟨B6, hB6⟩ : ∃ B6, B6 = B3 + 1 := ⟨_, rfl⟩
  have HB6 := hide hB6
  rw [← hB6] at hz
  have H36 : Hid (¬ B3 = B6) := by show ¬ B3 = B6; omega
  have HLO : Hid (w.heap.size ≤ B6) := by show w.heap.size ≤ B6; omega
  have HP := hide hp
  have HZ := hide hz
  have HR := hide hrow
  have HRW := hide h
  have HB := hide hb
  unfold pageBlock at HX
  unfold pageV
  clear hX hp hz hrow hb hn hB3 hB6 h hu
  go_enter Tryd.func22, Tryd.ntmps22
  go_upto_region 1 with fail
  rw [← HX.out, ← HB3.out, ← HB6.out]
  clear HX HB3 HB6
  have k0 := HP.out.c0
  have k1 := HP.out.c1
  go_wp2_with fail
  refine (rfind_any lsn ao n c es key _ HR.out HN.out).mono ?_
  rintro e x1 ⟨rfl, hb⟩
  replace HP := hide (HP.out.step hb)
  replace HZ := hide (HZ.out.step hb)
  replace HR := hide (HR.out.step hb)
  replace HB := hide (over HB.out hb HB.out.size)
  clear hb k0 k1
  obtain ⟨V0, hV0⟩ : ∃ V0, V0 = (valE es key).getD 0 := ⟨_, rfl⟩
  rw [← hV0]
  clear hV0
  rw [hroom]
  clear hroom
  have k0 := HP.out.c0
  have k1 := HP.out.c1
  have hbx := below_box x1 (pageBlock lsn none 0 0)
  have HPA : Hid (PageAt w (x1.alloc (pageBlock lsn none 0 0)) x1.heap.size lsn none 0 0 []) := ⟨heap_alloc_new _ _, ownE_nil _ _, rfl, HB.out.size, over HB.out hbx HB.out.size⟩
  have HP1 := hide (HP.out.step hbx)
  have HZ1 := hide (HZ.out.step hbx)
  have HPN : Hid (x1.heap.size ≠ B3 ∧ x1.heap.size ≠ B6) := ⟨by have := HP.out.lt; omega, by have := HZ.out.lt; omega⟩
  unfold pageBlock at HPA HP1 HZ1
  clear hbx
  go_upto_region 5 with fail
  obtain ⟨Y, hY⟩ : ∃ Y, Y = x1.alloc (.cells #[.int .i64 lsn, .slice none 0 0] 24) := ⟨_, rfl⟩
  rw [← hY] at HPA HP1 HZ1 ⊢
  obtain ⟨P, hP⟩ : ∃ P, P = x1.heap.size := ⟨_, rfl⟩
  rw [← hP] at HPA HPN ⊢
  clear hY hP k0 k1 HP HZ HR HB
  go_wp2_with fail
  go_loopw [11, 12] (fun pl i wr => ∃ (k m : Nat) (a1 : Option Addr) (c1 : Nat), k ≤ n ∧ i = .int .i64 k ∧ pl = .bool (!belowE key (es.take k)) ∧ m ≤ k + 1 ∧ PageAt w wr P lsn a1 m c1 (outE key v (es.take k)) ∧ PBlk wr B3 lsn ao n c ∧ PBlk wr B6 0 none 0 0) (fun _ i _ => n - (intOf i).toNat)
  case atStart => exact ⟨0, 0, none, 0, by omega, rfl, rfl, by omega, HPA.out, HP1.out, HZ1.out⟩
  case round =>
    clear HPA HP1 HZ1
    obtain ⟨k, m, a1, c1, hk, rfl, rfl, hmk, hpa, hp, hz⟩ := hrel
    have HPA := hide hpa
    have HP := hide hp
    have HZ := hide hz
    clear hpa hp hz
    have k1 := HP.out.c1
    by_cases hlt : k < n
    · have hki : (k : Int) < (n : Int) := by omega
      obtain ⟨e, he⟩ : ∃ e, es[k]? = some e := ⟨es[k]'(by rw [HN.out]; exact hlt), List.getElem?_eq_getElem _⟩
      obtain ⟨b, off, rfl, hlb, hc⟩ := HRW.out.2 (by rw [HN.out]; omega)
      have HDD : Hid (∀ Y : World, Below w.heap.size w Y → Y.cell? ⟨b, off + k * 2, none⟩ = some (.int .i64 e.1) ∧ Y.cell? ⟨b, off + k * 2 + 1, none⟩ = some (.int .i64 e.2)) := fun Y hY => ⟨(hY.cell (p := ⟨b, off + k * 2, none⟩) hlb).trans (hc k e he).1, (hY.cell (p := ⟨b, off + k * 2 + 1, none⟩) hlb).trans (hc k e he).2⟩
      obtain ⟨d1, d2⟩ := HDD.out wr HPA.out.bel
      have hts := take_succ_at he
      have hbs := below_snoc key (es.take k) e
      rw [← hts] at hbs
      cases hbl : belowE key (es.take k) with
      | true =>
        rw [hbl, Bool.true_and] at hbs
        have hmk' : m ≤ k := by rw [← HPA.out.num]; unfold outE; rw [if_pos hbl, List.length_take, HN.out]; omega
        rcases Int.lt_trichotomy e.1 key with hx | hx | hx
        · have HT : Hid (outE key v (es.take (k + 1)) = outE key v (es.take k) ++ [e]) := by show _ = _; rw [hts]; exact out_low hbl hx
          have HBL : Hid (belowE key (es.take (k + 1)) = true) := by show _ = _; rw [hbs]; exact decide_eq_true hx
          obtain ⟨x, y⟩ := e
          simp only at d1 d2 hx
          have hx1 : decide (key ≤ x) = false := by simp; omega
          have hx2 : (x != key) = true := by simp; omega
          clear hts hbs hc he hlb hbl
          obtain ⟨a3, c3, w4, hrun, hc3, hf3, hpa, hoth⟩ := HPA.out.drew.more (by omega) (x, y)
          have HRUN : Hid ((Builtin.append_ #[22, 22] 22 #[.slice a1 m c1, .slice (some ⟨wr.heap.size, 0, none⟩) 1 1]).run Tryd.prog (wr.alloc (.cells #[.int .i64 x, .int .i64 y] 65)).drew = .ok (.slice a3 (m + 1) c3) w4) := hrun
          have HPA3 := hide hpa
          have HP3 := hide (hoth _ _ _ _ _ HP.out.drew HPN.out.1.symm)
          have HZ3 := hide (hoth _ _ _ _ _ HZ.out.drew HPN.out.2.symm)
          obtain ⟨c0', c1', f1', cl'⟩ := HPA.out.cell
          clear hrun hpa hoth
          go_wp2_with fail
          apply dup
          case k =>
            intro TAIL
            go_region_law (first | (refine step_append_e (by rfl) (.tmp 67) (.tmp 73) 22 (by rfl) _ _ (by rfl) (by rfl) HRUN.out ?_))
            all_goals exact TAIL.out
          case h =>
            clear hc3 hf3 c0' c1' f1' cl' d1 d2 k1
            go_wp2_with fail
            go_roundw
            case rel => exact ⟨k + 1, m + 1, a3, c3, by omega, by go_num, by rw [HBL.out]; rfl, by omega, by rw [HT.out]; exact HPA3.out, HP3.out, HZ3.out⟩
            case measure => simp [intOf]; omega
        · have HT : Hid (outE key v (es.take (k + 1)) = outE key v (es.take k) ++ [(key, v)]) := by show _ = _; rw [hts]; exact out_same hbl hx
          have HBL : Hid (belowE key (es.take (k + 1)) = false) := by show _ = _; rw [hbs]; exact decide_eq_false (by omega)
          obtain ⟨x, y⟩ := e
          simp only at d1 d2 hx
          have hx1 : decide (key ≤ x) = true := by simp; omega
          have hx2 : (x != key) = false := by simp; omega
          clear hts hbs hc he hlb hbl
          obtain ⟨a2, c2, w3, hrun, hc3, hf3, hpa, hoth⟩ := HPA.out.more (by omega) (key, v)
          have HRUN := hide hrun
          have HPA2 := hide hpa
          have HP2 := hide (hoth _ _ _ _ _ HP.out HPN.out.1.symm)
          have HZ2 := hide (hoth _ _ _ _ _ HZ.out HPN.out.2.symm)
          obtain ⟨c0', c1', f1', cl'⟩ := HPA.out.cell
          clear hrun hpa hoth
          go_upto_region 11 with (first | (with_reducible refine buildE (key, v) ?_ ?_; rfl) | (at_builtin; refine wpList_append_runE rfl (.tmp 51) (.tmp 55) 22 rfl _ _ rfl rfl HRUN.out ?_))
          clear hc3 hf3 c0' c1' f1' cl' k1 d1 d2 HRUN HPA HP HZ
          obtain ⟨Y, hY⟩ : ∃ Y, Y = w3.setCell ⟨P, 1, none⟩ (.slice a2 (m + 1) c2) := ⟨_, rfl⟩
          rw [← hY] at HPA2 HP2 HZ2 ⊢
          clear hY
          have k1 := HP2.out.c1
          obtain ⟨d1, d2⟩ := HDD.out Y HPA2.out.bel
          go_wp2_with fail
          go_roundw
          case rel => exact ⟨k + 1, m + 1, a2, c2, by omega, by go_num, by rw [HBL.out]; rfl, by omega, by rw [HT.out]; exact HPA2.out, HP2.out, HZ2.out⟩
          case measure => simp [intOf]; omega
        · have HT : Hid (outE key v (es.take (k + 1)) = outE key v (es.take k) ++ [(key, v)] ++ [e]) := by show _ = _; rw [hts]; exact out_over hbl hx
          have HBL : Hid (belowE key (es.take (k + 1)) = false) := by show _ = _; rw [hbs]; exact decide_eq_false (by omega)
          obtain ⟨x, y⟩ := e
          simp only at d1 d2 hx
          have hx1 : decide (key ≤ x) = true := by simp; omega
          have hx2 : (x != key) = true := by simp; omega
          clear hts hbs hc he hlb hbl
          obtain ⟨a2, c2, w3, hrun, hc3, hf3, hpa, hoth⟩ := HPA.out.more (by omega) (key, v)
          have HRUN := hide hrun
          have HPA2 := hide hpa
          have HP2 := hide (hoth _ _ _ _ _ HP.out HPN.out.1.symm)
          have HZ2 := hide (hoth _ _ _ _ _ HZ.out HPN.out.2.symm)
          obtain ⟨c0', c1', f1', cl'⟩ := HPA.out.cell
          clear hrun hpa hoth
          go_upto_region 11 with (first | (with_reducible refine buildE (key, v) ?_ ?_; rfl) | (at_builtin; refine wpList_append_runE rfl (.tmp 51) (.tmp 55) 22 rfl _ _ rfl rfl HRUN.out ?_))
          clear hc3 hf3 c0' c1' f1' cl' k1 d1 d2 HRUN HPA HP HZ
          obtain ⟨Y, hY⟩ : ∃ Y, Y = w3.setCell ⟨P, 1, none⟩ (.slice a2 (m + 1) c2) := ⟨_, rfl⟩
          rw [← hY] at HPA2 HP2 HZ2 ⊢
          clear hY
          have k1 := HP2.out.c1
          obtain ⟨d1, d2⟩ := HDD.out Y HPA2.out.bel
          obtain ⟨a3, c3, w4, hrun, hc3, hf3, hpa, hoth⟩ := HPA2.out.drew.more (by omega) (x, y)
          have HRUN : Hid ((Builtin.append_ #[22, 22] 22 #[.slice a2 (m + 1) c2, .slice (some ⟨Y.heap.size, 0, none⟩) 1 1]).run Tryd.prog (Y.alloc (.cells #[.int .i64 x, .int .i64 y] 65)).drew = .ok (.slice a3 (m + 1 + 1) c3) w4) := hrun
          have HPA3 := hide hpa
          have HP3 := hide (hoth _ _ _ _ _ HP2.out.drew HPN.out.1.symm)
          have HZ3 := hide (hoth _ _ _ _ _ HZ2.out.drew HPN.out.2.symm)
          obtain ⟨c0', c1', f1', cl'⟩ := HPA2.out.cell
          clear hrun hpa hoth
          go_wp2_with fail
          apply dup
          case k =>
            intro TAIL
            go_region_law (first | (refine step_append_e (by rfl) (.tmp 67) (.tmp 73) 22 (by rfl) _ _ (by rfl) (by rfl) HRUN.out ?_))
            all_goals exact TAIL.out
          case h =>
            clear hc3 hf3 c0' c1' f1' cl' d1 d2 k1
            go_wp2_with fail
            go_roundw
            case rel => exact ⟨k + 1, m + 1 + 1, a3, c3, by omega, by go_num, by rw [HBL.out]; rfl, by omega, by rw [HT.out]; exact HPA3.out, HP3.out, HZ3.out⟩
            case measure => simp [intOf]; omega
      | false =>
        have HT : Hid (outE key v (es.take (k + 1)) = outE key v (es.take k) ++ [e]) := by show _ = _; rw [hts]; exact out_behind hbl
        have hx := behind_ne HU.out he hbl
        have HBL : Hid (belowE key (es.take (k + 1)) = false) := by show _ = _; rw [hbs, hbl]; rfl
        have hmk2 : m + 1 ≤ k + 1 + 1 := by omega
        obtain ⟨x, y⟩ := e
        simp only at d1 d2 hx
        have hx2 : (x != key) = true := by simpa using hx
        clear hts hbs hc he hlb hbl
        obtain ⟨a3, c3, w4, hrun, hc3, hf3, hpa, hoth⟩ := HPA.out.drew.more (by omega) (x, y)
        have HRUN : Hid ((Builtin.append_ #[22, 22] 22 #[.slice a1 m c1, .slice (some ⟨wr.heap.size, 0, none⟩) 1 1]).run Tryd.prog (wr.alloc (.cells #[.int .i64 x, .int .i64 y] 65)).drew = .ok (.slice a3 (m + 1) c3) w4) := hrun
        have HPA3 := hide hpa
        have HP3 := hide (hoth _ _ _ _ _ HP.out.drew HPN.out.1.symm)
        have HZ3 := hide (hoth _ _ _ _ _ HZ.out.drew HPN.out.2.symm)
        obtain ⟨c0', c1', f1', cl'⟩ := HPA.out.cell
        clear hrun hpa hoth
        go_wp2_with fail
        apply dup
        case k =>
          intro TAIL
          go_region_law (first | (refine step_append_e (by rfl) (.tmp 67) (.tmp 73) 22 (by rfl) _ _ (by rfl) (by rfl) HRUN.out ?_))
          all_goals exact TAIL.out
        case h =>
          clear hc3 hf3 c0' c1' f1' cl' d1 d2 k1
          go_wp2_with fail
          go_roundw
          case rel => exact ⟨k + 1, m + 1, a3, c3, by omega, by go_num, by rw [HBL.out]; rfl, by omega, by rw [HT.out]; exact HPA3.out, HP3.out, HZ3.out⟩
          case measure => simp [intOf]; omega
    · have hki : decide ((k : Int) < (n : Int)) = false := by simp; omega
      have hkn : k = n := by omega
      subst hkn
      have HTK : Hid (es.take k = es) := List.take_of_length_le (by rw [HN.out]; exact Nat.le_refl _)
      cases hbl : belowE key (es.take k) with
      | true =>
        have HT : Hid (insE key v es = outE key v (es.take k) ++ [(key, v)]) := by show _ = _; rw [HTK.out] at hbl ⊢; exact out_end hbl
        clear hbl
        obtain ⟨a2, c2, w3, hrun, hc3, hf3, hpa, hoth⟩ := HPA.out.more (by omega) (key, v)
        have HRUN := hide hrun
        have HPA2 := hide hpa
        have HP2 := hide (hoth _ _ _ _ _ HP.out HPN.out.1.symm)
        have HZ2 := hide (hoth _ _ _ _ _ HZ.out HPN.out.2.symm)
        obtain ⟨c0', c1', f1', cl'⟩ := HPA.out.cell
        clear hrun hpa hoth
        go_upto_region 16 with (first | (with_reducible refine buildE (key, v) ?_ ?_; rfl) | (at_builtin; refine wpList_append_runE rfl (.tmp 79) (.tmp 83) 22 rfl _ _ rfl rfl HRUN.out ?_))
        clear hc3 hf3 c0' c1' f1' cl' k1 HRUN HPA HP HZ
        obtain ⟨Y, hY⟩ : ∃ Y, Y = w3.setCell ⟨P, 1, none⟩ (.slice a2 (m + 1) c2) := ⟨_, rfl⟩
        rw [← hY] at HPA2 HP2 HZ2 ⊢
        clear hY
        obtain ⟨c0', c1', f1', cl'⟩ := HPA2.out.cell
        have z0 := HZ2.out.c0
        have z1 := HZ2.out.c1
        have g0 := HZ2.out.fz 0
        have g1 := HZ2.out.fz 1
        have HM2 : Hid ((insE key v es).length = m + 1) := by show _ = _; rw [HT.out]; exact HPA2.out.num
        have HO2 : Hid (OwnE Y w.heap.size a2 c2 (insE key v es)) := by have := HPA2.out.own; rw [← HT.out] at this; exact this
        have HB2 := hide HPA2.out.bel
        go_wp2_with fail
        exact bodyPost_ret (v := .tuple #[.agg #[.int .i64 lsn, .slice a2 (m + 1) c2], .bool true]) (by simp [results, Tryd.results22, go_sem, z0, z1]) rfl ⟨a2, m + 1, c2, rfl, HM2.out, (HO2.out.setPage HZ2.out 0 _).setPage (set_block HZ2.out 0 _) 1 _, (HB2.out.setCell (p := ⟨B6, 0, none⟩) HLO.out _).setCell (p := ⟨B6, 1, none⟩) HLO.out _⟩
      | false =>
        have HT : Hid (insE key v es = outE key v (es.take k)) := by show _ = _; rw [HTK.out] at hbl ⊢; exact out_end' hbl
        clear hbl
        obtain ⟨c0', c1', f1', cl'⟩ := HPA.out.cell
        have z0 := HZ.out.c0
        have z1 := HZ.out.c1
        have g0 := HZ.out.fz 0
        have g1 := HZ.out.fz 1
        have HM2 : Hid ((insE key v es).length = m) := by show _ = _; rw [HT.out]; exact HPA.out.num
        have HO2 : Hid (OwnE wr w.heap.size a1 c1 (insE key v es)) := by have := HPA.out.own; rw [← HT.out] at this; exact this
        have HB2 := hide HPA.out.bel
        go_wp2_with fail
        exact bodyPost_ret (v := .tuple #[.agg #[.int .i64 lsn, .slice a1 m c1], .bool true]) (by simp [results, Tryd.results22, go_sem, z0, z1]) rfl ⟨a1, m, c1, rfl, HM2.out, (HO2.out.setPage HZ.out 0 _).setPage (set_block HZ.out 0 _) 1 _, (HB2.out.setCell (p := ⟨B6, 0, none⟩) HLO.out _).setCell (p := ⟨B6, 1, none⟩) HLO.out _⟩
end Go.Proofs.YtdijgpkcolpfoaaDoor

/- What the document's own Put answers of a key that is not there, where there is room. -/
namespace Go.Proofs.YtdijgpkcolpfoaaDoor
open Go.RowKit
set_option linter.unusedVariables false

set_option maxRecDepth 100000 in
set_option maxHeartbeats 8000000 in
theorem rput_room (lsn : Int) (ao : Option Addr) (n c : Nat) (es : List (Int × Int)) (key v : Int) (w : World) (h : EntRow w ao es) (hu : Up es) (hn : es.length = n) (hn9 : n ≤ 100) (hroom : hasE es key = false) (hn20 : n < 20) :
    Calls Tryd.prog 22 #[pageV lsn ao n c, .int .i64 key, .int .i64 v] w fun r w' => ∃ ao' m c', r = .returned (.tuple #[pageV lsn ao' m c', .bool true]) ∧ (insE key v es).length = m ∧ OwnE w' w.heap.size ao' c' (insE key v es) ∧ Below w.heap.size w w' := by
  obtain ⟨X, hX, hp, hz, hrow, hb⟩ := boxes2 w lsn ao n c h
  have HN := hide hn
  have HU := hide hu
  have HX := hide hX
  obtain ⟨B3, hB3⟩ : ∃ B3, B3 = w.heap.size := ⟨_, rfl⟩
  have HB3 := hide hB3
  rw [← hB3] at hp hz
  obtain ⟨B6, hB6⟩ : ∃ B6, B6 = B3 + 1 := ⟨_, rfl⟩
  have HB6 := hide hB6
  rw [← hB6] at hz
  have H36 : Hid (¬ B3 = B6) := by show ¬ B3 = B6; omega
  have HLO : Hid (w.heap.size ≤ B6) := by show w.heap.size ≤ B6; omega
  have HP := hide hp
  have HZ := hide hz
  have HR := hide hrow
  have HRW := hide h
  have HB := hide hb
  unfold pageBlock at HX
  unfold pageV
  clear hX hp hz hrow hb hn hB3 hB6 h hu
  go_enter Tryd.func22, Tryd.ntmps22
  go_upto_region 1 with fail
  rw [← HX.out, ← HB3.out, ← HB6.out]
  clear HX HB3 HB6
  have k0 := HP.out.c0
  have k1 := HP.out.c1
  go_wp2_with fail
  refine (rfind_any lsn ao n c es key _ HR.out HN.out).mono ?_
  rintro e x1 ⟨rfl, hb⟩
  replace HP := hide (HP.out.step hb)
  replace HZ := hide (HZ.out.step hb)
  replace HR := hide (HR.out.step hb)
  replace HB := hide (over HB.out hb HB.out.size)
  clear hb k0 k1
  obtain ⟨V0, hV0⟩ : ∃ V0, V0 = (valE es key).getD 0 := ⟨_, rfl⟩
  rw [← hV0]
  clear hV0
  rw [hroom]
  have hni : decide ((20 : Int) ≤ (n : Int)) = false := by simp; omega
  clear hroom
  have k0 := HP.out.c0
  have k1 := HP.out.c1
  have hbx := below_box x1 (pageBlock lsn none 0 0)
  have HPA : Hid (PageAt w (x1.alloc (pageBlock lsn none 0 0)) x1.heap.size lsn none 0 0 []) := ⟨heap_alloc_new _ _, ownE_nil _ _, rfl, HB.out.size, over HB.out hbx HB.out.size⟩
  have HP1 := hide (HP.out.step hbx)
  have HZ1 := hide (HZ.out.step hbx)
  have HPN : Hid (x1.heap.size ≠ B3 ∧ x1.heap.size ≠ B6) := ⟨by have := HP.out.lt; omega, by have := HZ.out.lt; omega⟩
  unfold pageBlock at HPA HP1 HZ1
  clear hbx
  go_upto_region 5 with fail
  obtain ⟨Y, hY⟩ : ∃ Y, Y = x1.alloc (.cells #[.int .i64 lsn, .slice none 0 0] 24) := ⟨_, rfl⟩
  rw [← hY] at HPA HP1 HZ1 ⊢
  obtain ⟨P, hP⟩ : ∃ P, P = x1.heap.size := ⟨_, rfl⟩
  rw [← hP] at HPA HPN ⊢
  clear hY hP k0 k1 HP HZ HR HB
  go_wp2_with fail
  go_loopw [11, 12] (fun pl i wr => ∃ (k m : Nat) (a1 : Option Addr) (c1 : Nat), k ≤ n ∧ i = .int .i64 k ∧ pl = .bool (!belowE key (es.take k)) ∧ m ≤ k + 1 ∧ PageAt w wr P lsn a1 m c1 (outE key v (es.take k)) ∧ PBlk wr B3 lsn ao n c ∧ PBlk wr B6 0 none 0 0) (fun _ i _ => n - (intOf i).toNat)
  case atStart => exact ⟨0, 0, none, 0, by omega, rfl, rfl, by omega, HPA.out, HP1.out, HZ1.out⟩
  case round =>
    clear HPA HP1 HZ1
    obtain ⟨k, m, a1, c1, hk, rfl, rfl, hmk, hpa, hp, hz⟩ := hrel
    have HPA := hide hpa
    have HP := hide hp
    have HZ := hide hz
    clear hpa hp hz
    have k1 := HP.out.c1
    by_cases hlt : k < n
    · have hki : (k : Int) < (n : Int) := by omega
      obtain ⟨e, he⟩ : ∃ e, es[k]? = some e := ⟨es[k]'(by rw [HN.out]; exact hlt), List.getElem?_eq_getElem _⟩
      obtain ⟨b, off, rfl, hlb, hc⟩ := HRW.out.2 (by rw [HN.out]; omega)
      have HDD : Hid (∀ Y : World, Below w.heap.size w Y → Y.cell? ⟨b, off + k * 2, none⟩ = some (.int .i64 e.1) ∧ Y.cell? ⟨b, off + k * 2 + 1, none⟩ = some (.int .i64 e.2)) := fun Y hY => ⟨(hY.cell (p := ⟨b, off + k * 2, none⟩) hlb).trans (hc k e he).1, (hY.cell (p := ⟨b, off + k * 2 + 1, none⟩) hlb).trans (hc k e he).2⟩
      obtain ⟨d1, d2⟩ := HDD.out wr HPA.out.bel
      have hts := take_succ_at he
      have hbs := below_snoc key (es.take k) e
      rw [← hts] at hbs
      cases hbl : belowE key (es.take k) with
      | true =>
        rw [hbl, Bool.true_and] at hbs
        have hmk' : m ≤ k := by rw [← HPA.out.num]; unfold outE; rw [if_pos hbl, List.length_take, HN.out]; omega
        rcases Int.lt_trichotomy e.1 key with hx | hx | hx
        · have HT : Hid (outE key v (es.take (k + 1)) = outE key v (es.take k) ++ [e]) := by show _ = _; rw [hts]; exact out_low hbl hx
          have HBL : Hid (belowE key (es.take (k + 1)) = true) := by show _ = _; rw [hbs]; exact decide_eq_true hx
          obtain ⟨x, y⟩ := e
          simp only at d1 d2 hx
          have hx1 : decide (key ≤ x) = false := by simp; omega
          have hx2 : (x != key) = true := by simp; omega
          clear hts hbs hc he hlb hbl
          obtain ⟨a3, c3, w4, hrun, hc3, hf3, hpa, hoth⟩ := HPA.out.drew.more (by omega) (x, y)
          have HRUN : Hid ((Builtin.append_ #[22, 22] 22 #[.slice a1 m c1, .slice (some ⟨wr.heap.size, 0, none⟩) 1 1]).run Tryd.prog (wr.alloc (.cells #[.int .i64 x, .int .i64 y] 65)).drew = .ok (.slice a3 (m + 1) c3) w4) := hrun
          have HPA3 := hide hpa
          have HP3 := hide (hoth _ _ _ _ _ HP.out.drew HPN.out.1.symm)
          have HZ3 := hide (hoth _ _ _ _ _ HZ.out.drew HPN.out.2.symm)
          obtain ⟨c0', c1', f1', cl'⟩ := HPA.out.cell
          clear hrun hpa hoth
          go_wp2_with fail
          apply dup
          case k =>
            intro TAIL
            go_region_law (first | (refine step_append_e (by rfl) (.tmp 67) (.tmp 73) 22 (by rfl) _ _ (by rfl) (by rfl) HRUN.out ?_))
            all_goals exact TAIL.out
          case h =>
            clear hc3 hf3 c0' c1' f1' cl' d1 d2 k1
            go_wp2_with fail
            go_roundw
            case rel => exact ⟨k + 1, m + 1, a3, c3, by omega, by go_num, by rw [HBL.out]; rfl, by omega, by rw [HT.out]; exact HPA3.out, HP3.out, HZ3.out⟩
            case measure => simp [intOf]; omega
        · have HT : Hid (outE key v (es.take (k + 1)) = outE key v (es.take k) ++ [(key, v)]) := by show _ = _; rw [hts]; exact out_same hbl hx
          have HBL : Hid (belowE key (es.take (k + 1)) = false) := by show _ = _; rw [hbs]; exact decide_eq_false (by omega)
          obtain ⟨x, y⟩ := e
          simp only at d1 d2 hx
          have hx1 : decide (key ≤ x) = true := by simp; omega
          have hx2 : (x != key) = false := by simp; omega
          clear hts hbs hc he hlb hbl
          obtain ⟨a2, c2, w3, hrun, hc3, hf3, hpa, hoth⟩ := HPA.out.more (by omega) (key, v)
          have HRUN := hide hrun
          have HPA2 := hide hpa
          have HP2 := hide (hoth _ _ _ _ _ HP.out HPN.out.1.symm)
          have HZ2 := hide (hoth _ _ _ _ _ HZ.out HPN.out.2.symm)
          obtain ⟨c0', c1', f1', cl'⟩ := HPA.out.cell
          clear hrun hpa hoth
          go_upto_region 11 with (first | (with_reducible refine buildE (key, v) ?_ ?_; rfl) | (at_builtin; refine wpList_append_runE rfl (.tmp 51) (.tmp 55) 22 rfl _ _ rfl rfl HRUN.out ?_))
          clear hc3 hf3 c0' c1' f1' cl' k1 d1 d2 HRUN HPA HP HZ
          obtain ⟨Y, hY⟩ : ∃ Y, Y = w3.setCell ⟨P, 1, none⟩ (.slice a2 (m + 1) c2) := ⟨_, rfl⟩
          rw [← hY] at HPA2 HP2 HZ2 ⊢
          clear hY
          have k1 := HP2.out.c1
          obtain ⟨d1, d2⟩ := HDD.out Y HPA2.out.bel
          go_wp2_with fail
          go_roundw
          case rel => exact ⟨k + 1, m + 1, a2, c2, by omega, by go_num, by rw [HBL.out]; rfl, by omega, by rw [HT.out]; exact HPA2.out, HP2.out, HZ2.out⟩
          case measure => simp [intOf]; omega
        · have HT : Hid (outE key v (es.take (k + 1)) = outE key v (es.take k) ++ [(key, v)] ++ [e]) := by show _ = _; rw [hts]; exact out_over hbl hx
          have HBL : Hid (belowE key (es.take (k + 1)) = false) := by show _ = _; rw [hbs]; exact decide_eq_false (by omega)
          obtain ⟨x, y⟩ := e
          simp only at d1 d2 hx
          have hx1 : decide (key ≤ x) = true := by simp; omega
          have hx2 : (x != key) = true := by simp; omega
          clear hts hbs hc he hlb hbl
          obtain ⟨a2, c2, w3, hrun, hc3, hf3, hpa, hoth⟩ := HPA.out.more (by omega) (key, v)
          have HRUN := hide hrun
          have HPA2 := hide hpa
          have HP2 := hide (hoth _ _ _ _ _ HP.out HPN.out.1.symm)
          have HZ2 := hide (hoth _ _ _ _ _ HZ.out HPN.out.2.symm)
          obtain ⟨c0', c1', f1', cl'⟩ := HPA.out.cell
          clear hrun hpa hoth
          go_upto_region 11 with (first | (with_reducible refine buildE (key, v) ?_ ?_; rfl) | (at_builtin; refine wpList_append_runE rfl (.tmp 51) (.tmp 55) 22 rfl _ _ rfl rfl HRUN.out ?_))
          clear hc3 hf3 c0' c1' f1' cl' k1 d1 d2 HRUN HPA HP HZ
          obtain ⟨Y, hY⟩ : ∃ Y, Y = w3.setCell ⟨P, 1, none⟩ (.slice a2 (m + 1) c2) := ⟨_, rfl⟩
          rw [← hY] at HPA2 HP2 HZ2 ⊢
          clear hY
          have k1 := HP2.out.c1
          obtain ⟨d1, d2⟩ := HDD.out Y HPA2.out.bel
          obtain ⟨a3, c3, w4, hrun, hc3, hf3, hpa, hoth⟩ := HPA2.out.drew.more (by omega) (x, y)
          have HRUN : Hid ((Builtin.append_ #[22, 22] 22 #[.slice a2 (m + 1) c2, .slice (some ⟨Y.heap.size, 0, none⟩) 1 1]).run Tryd.prog (Y.alloc (.cells #[.int .i64 x, .int .i64 y] 65)).drew = .ok (.slice a3 (m + 1 + 1) c3) w4) := hrun
          have HPA3 := hide hpa
          have HP3 := hide (hoth _ _ _ _ _ HP2.out.drew HPN.out.1.symm)
          have HZ3 := hide (hoth _ _ _ _ _ HZ2.out.drew HPN.out.2.symm)
          obtain ⟨c0', c1', f1', cl'⟩ := HPA2.out.cell
          clear hrun hpa hoth
          go_wp2_with fail
          apply dup
          case k =>
            intro TAIL
            go_region_law (first | (refine step_append_e (by rfl) (.tmp 67) (.tmp 73) 22 (by rfl) _ _ (by rfl) (by rfl) HRUN.out ?_))
            all_goals exact TAIL.out
          case h =>
            clear hc3 hf3 c0' c1' f1' cl' d1 d2 k1
            go_wp2_with fail
            go_roundw
            case rel => exact ⟨k + 1, m + 1 + 1, a3, c3, by omega, by go_num, by rw [HBL.out]; rfl, by omega, by rw [HT.out]; exact HPA3.out, HP3.out, HZ3.out⟩
            case measure => simp [intOf]; omega
      | false =>
        have HT : Hid (outE key v (es.take (k + 1)) = outE key v (es.take k) ++ [e]) := by show _ = _; rw [hts]; exact out_behind hbl
        have hx := behind_ne HU.out he hbl
        have HBL : Hid (belowE key (es.take (k + 1)) = false) := by show _ = _; rw [hbs, hbl]; rfl
        have hmk2 : m + 1 ≤ k + 1 + 1 := by omega
        obtain ⟨x, y⟩ := e
        simp only at d1 d2 hx
        have hx2 : (x != key) = true := by simpa using hx
        clear hts hbs hc he hlb hbl
        obtain ⟨a3, c3, w4, hrun, hc3, hf3, hpa, hoth⟩ := HPA.out.drew.more (by omega) (x, y)
        have HRUN : Hid ((Builtin.append_ #[22, 22] 22 #[.slice a1 m c1, .slice (some ⟨wr.heap.size, 0, none⟩) 1 1]).run Tryd.prog (wr.alloc (.cells #[.int .i64 x, .int .i64 y] 65)).drew = .ok (.slice a3 (m + 1) c3) w4) := hrun
        have HPA3 := hide hpa
        have HP3 := hide (hoth _ _ _ _ _ HP.out.drew HPN.out.1.symm)
        have HZ3 := hide (hoth _ _ _ _ _ HZ.out.drew HPN.out.2.symm)
        obtain ⟨c0', c1', f1', cl'⟩ := HPA.out.cell
        clear hrun hpa hoth
        go_wp2_with fail
        apply dup
        case k =>
          intro TAIL
          go_region_law (first | (refine step_append_e (by rfl) (.tmp 67) (.tmp 73) 22 (by rfl) _ _ (by rfl) (by rfl) HRUN.out ?_))
          all_goals exact TAIL.out
        case h =>
          clear hc3 hf3 c0' c1' f1' cl' d1 d2 k1
          go_wp2_with fail
          go_roundw
          case rel => exact ⟨k + 1, m + 1, a3, c3, by omega, by go_num, by rw [HBL.out]; rfl, by omega, by rw [HT.out]; exact HPA3.out, HP3.out, HZ3.out⟩
          case measure => simp [intOf]; omega
    · have hki : decide ((k : Int) < (n : Int)) = false := by simp; omega
      have hkn : k = n := by omega
      subst hkn
      have HTK : Hid (es.take k = es) := List.take_of_length_le (by rw [HN.out]; exact Nat.le_refl _)
      cases hbl : belowE key (es.take k) with
      | true =>
        have HT : Hid (insE key v es = outE key v (es.take k) ++ [(key, v)]) := by show _ = _; rw [HTK.out] at hbl ⊢; exact out_end hbl
        clear hbl
        obtain ⟨a2, c2, w3, hrun, hc3, hf3, hpa, hoth⟩ := HPA.out.more (by omega) (key, v)
        have HRUN := hide hrun
        have HPA2 := hide hpa
        have HP2 := hide (hoth _ _ _ _ _ HP.out HPN.out.1.symm)
        have HZ2 := hide (hoth _ _ _ _ _ HZ.out HPN.out.2.symm)
        obtain ⟨c0', c1', f1', cl'⟩ := HPA.out.cell
        clear hrun hpa hoth
        go_upto_region 16 with (first | (with_reducible refine buildE (key, v) ?_ ?_; rfl) | (at_builtin; refine wpList_append_runE rfl (.tmp 79) (.tmp 83) 22 rfl _ _ rfl rfl HRUN.out ?_))
        clear hc3 hf3 c0' c1' f1' cl' k1 HRUN HPA HP HZ
        obtain ⟨Y, hY⟩ : ∃ Y, Y = w3.setCell ⟨P, 1, none⟩ (.slice a2 (m + 1) c2) := ⟨_, rfl⟩
        rw [← hY] at HPA2 HP2 HZ2 ⊢
        clear hY
        obtain ⟨c0', c1', f1', cl'⟩ := HPA2.out.cell
        have z0 := HZ2.out.c0
        have z1 := HZ2.out.c1
        have g0 := HZ2.out.fz 0
        have g1 := HZ2.out.fz 1
        have HM2 : Hid ((insE key v es).length = m + 1) := by show _ = _; rw [HT.out]; exact HPA2.out.num
        have HO2 : Hid (OwnE Y w.heap.size a2 c2 (insE key v es)) := by have := HPA2.out.own; rw [← HT.out] at this; exact this
        have HB2 := hide HPA2.out.bel
        go_wp2_with fail
        exact bodyPost_ret (v := .tuple #[.agg #[.int .i64 lsn, .slice a2 (m + 1) c2], .bool true]) (by simp [results, Tryd.results22, go_sem, z0, z1]) rfl ⟨a2, m + 1, c2, rfl, HM2.out, (HO2.out.setPage HZ2.out 0 _).setPage (set_block HZ2.out 0 _) 1 _, (HB2.out.setCell (p := ⟨B6, 0, none⟩) HLO.out _).setCell (p := ⟨B6, 1, none⟩) HLO.out _⟩
      | false =>
        have HT : Hid (insE key v es = outE key v (es.take k)) := by show _ = _; rw [HTK.out] at hbl ⊢; exact out_end' hbl
        clear hbl
        obtain ⟨c0', c1', f1', cl'⟩ := HPA.out.cell
        have z0 := HZ.out.c0
        have z1 := HZ.out.c1
        have g0 := HZ.out.fz 0
        have g1 := HZ.out.fz 1
        have HM2 : Hid ((insE key v es).length = m) := by show _ = _; rw [HT.out]; exact HPA.out.num
        have HO2 : Hid (OwnE wr w.heap.size a1 c1 (insE key v es)) := by have := HPA.out.own; rw [← HT.out] at this; exact this
        have HB2 := hide HPA.out.bel
        go_wp2_with fail
        exact bodyPost_ret (v := .tuple #[.agg #[.int .i64 lsn, .slice a1 m c1], .bool true]) (by simp [results, Tryd.results22, go_sem, z0, z1]) rfl ⟨a1, m, c1, rfl, HM2.out, (HO2.out.setPage HZ.out 0 _).setPage (set_block HZ.out 0 _) 1 _, (HB2.out.setCell (p := ⟨B6, 0, none⟩) HLO.out _).setCell (p := ⟨B6, 1, none⟩) HLO.out _⟩
end Go.Proofs.YtdijgpkcolpfoaaDoor

/- What page.Remove answers. -/
namespace Go.Proofs.YtdijgpkcolpfoaaDoor
open Go.RowKit
set_option linter.unusedVariables false

set_option maxRecDepth 100000 in
set_option maxHeartbeats 4000000 in
theorem rem_any (lsn : Int) (ao : Option Addr) (n c : Nat) (es : List (Int × Int)) (key : Int) (w : World) (h : EntRow w ao es) (hn : es.length = n) :
    Calls Tryd.prog 23 #[pageV lsn ao n c, .int .i64 key] w fun r w' => ∃ ao' m c', r = .returned (.tuple #[pageV lsn ao' m c', .bool (hasE es key)]) ∧ (remE key es).length = m ∧ OwnE w' w.heap.size ao' c' (remE key es) ∧ Below w.heap.size w w' := by
  have hs := h.1
  rw [hn] at hs
  obtain ⟨X, hX, hp, hz, hrow, hb⟩ := boxes2 w lsn ao n c h
  have HN := hide hn
  have HX := hide hX
  obtain ⟨B3, hB3⟩ : ∃ B3, B3 = w.heap.size := ⟨_, rfl⟩
  have HB3 := hide hB3
  rw [← hB3] at hp hz
  obtain ⟨B6, hB6⟩ : ∃ B6, B6 = B3 + 1 := ⟨_, rfl⟩
  have HB6 := hide hB6
  rw [← hB6] at hz
  have H36 : Hid (¬ B3 = B6) := by show ¬ B3 = B6; omega
  have HLO : Hid (w.heap.size ≤ B6) := by show w.heap.size ≤ B6; omega
  have HLX := hide hb.size
  have HL3 : Hid (B3 < X.heap.size) := hp.lt
  have HL6 : Hid (B6 < X.heap.size) := hz.lt
  have HP := hide hp
  have HZ := hide hz
  have HR := hide hrow
  have HB := hide hb
  unfold pageBlock at HX
  unfold pageV
  clear hX hp hz hrow hb hn hB3 hB6 h
  go_enter Tryd.func23, Tryd.ntmps23
  go_upto_region 1 with fail
  rw [← HX.out, ← HB3.out, ← HB6.out]
  clear HX HB3 HB6
  have k1 := HP.out.c1
  go_wp2_with fail
  go_loopw [6, 12] (fun v i wr => ∃ (k m : Nat) (a1 : Option Addr) (c1 : Nat), k ≤ n ∧ i = .int .i64 k ∧ v = .slice a1 m c1 ∧ (remE key (es.take k)).length = m ∧ OwnE wr X.heap.size a1 c1 (remE key (es.take k)) ∧ Below X.heap.size X wr) (fun _ i _ => n - (intOf i).toNat)
  case atStart => exact ⟨0, 0, none, 0, by omega, rfl, rfl, rfl, ownE_nil _ _, Below.refl _ _⟩
  case round =>
    clear k1
    obtain ⟨k, m, a1, c1, hk, rfl, rfl, hm, hown, hbel⟩ := hrel
    have hmk : m ≤ k := by rw [← hm]; exact Nat.le_trans (len_rem_le _ _) (by rw [List.length_take]; omega)
    have HM := hide hm
    have HO := hide hown
    have HBX := hide hbel
    clear hm hown hbel
    by_cases hlt : k < n
    · have hki : (k : Int) < (n : Int) := by omega
      obtain ⟨e, he⟩ : ∃ e, es[k]? = some e := ⟨es[k]'(by rw [HN.out]; exact hlt), List.getElem?_eq_getElem _⟩
      obtain ⟨b, off, rfl, hlb, hc⟩ := HR.out.2 (by rw [HN.out]; omega)
      obtain ⟨d1, d2⟩ := hc k e he
      have k1 := (HBX.out.cell (p := ⟨b, off + k * 2, none⟩) hlb).trans d1
      have k2 := (HBX.out.cell (p := ⟨b, off + k * 2 + 1, none⟩) hlb).trans d2
      have hb1 := below_box wr (entBlock e)
      have HB1 := hide (over HBX.out hb1 HBX.out.size)
      have HO1 := hide (HO.out.step hb1)
      by_cases hx : e.1 = key
      · have HT := hide (rem_skip he hx)
        obtain ⟨x, y⟩ := e
        simp only at k1 k2 hx
        unfold entBlock at HB1 HO1
        clear hc d1 d2 he hlb hb1
        subst hx
        go_wp2_with fail
        go_roundw
        case rel => exact ⟨k + 1, m, a1, c1, by omega, by go_num, rfl, by rw [HT.out]; exact HM.out, by rw [HT.out]; exact HO1.out, HB1.out⟩
        case measure => simp [intOf]; omega
      · have HT := hide (rem_keep he hx)
        have hb2 := below_box (wr.alloc (entBlock e)) (entBlock e)
        obtain ⟨a2, c2, w2, hrun, hown2, hgr, hb3⟩ := run_appendE (yc := 1) (HO1.out.step hb2) HM.out (show [e].length = 1 from rfl) (by omega) (Nat.le_trans HB1.out.size hb2.size) (ent_new (wr.alloc (entBlock e)) e) 22
        rw [← HT.out] at hown2
        have HRUN := hide hrun
        have HO2 := hide hown2
        have HB2 := hide ((over HB1.out hb2 HB1.out.size).trans hb3)
        have HM2 : Hid ((remE key (es.take (k + 1))).length = m + 1) := by show _ = _; rw [HT.out, List.length_append, HM.out]; rfl
        obtain ⟨x, y⟩ := e
        simp only at k1 k2 hx
        have hx' : (x != key) = true := by simpa using hx
        clear hc d1 d2 he hlb hb1 hb2 hrun hown2 hgr hb3 HO HO1
        obtain ⟨V, hV⟩ : ∃ V, V = (wr.alloc (entBlock (x, y))).heap.size := ⟨_, rfl⟩
        rw [show entBlock (x, y) = .cells #[.int .i64 x, .int .i64 y] 65 from rfl] at hV
        go_wp2_with (first | (refine buildE (x, y) rfl ?_) | (at_builtin; refine wpList_append_runE rfl (.tmp 20) (.tmp 22) 22 rfl _ _ rfl rfl HRUN.out ?_))
        go_roundw
        case rel => exact ⟨k + 1, m + 1, a2, c2, by omega, by go_num, rfl, HM2.out, HO2.out, HB2.out⟩
        case measure => simp [intOf]; omega
    · have hki : decide ((k : Int) < (n : Int)) = false := by simp; omega
      have hkn : k = n := by omega
      subst hkn
      have HTK : Hid (es.take k = es) := List.take_of_length_le (by rw [HN.out]; exact Nat.le_refl _)
      have HM2 : Hid ((remE key es).length = m) := by show _ = _; rw [← HTK.out]; exact HM.out
      have HO2 : Hid (OwnE wr w.heap.size a1 c1 (remE key es)) := by have := HO.out.mono HLX.out; rw [HTK.out] at this; exact this
      have HV : Hid (decide ((m : Int) < (k : Int)) = hasE es key) := by
        show _ = _
        have h1 := len_rem_lt es key
        rw [HM2.out, HN.out] at h1
        cases hq : hasE es key with
        | true => rw [hq] at h1; exact decide_eq_true (by have := h1.2 rfl; omega)
        | false => rw [hq] at h1; exact decide_eq_false (fun h2 => by have := h1.1 (by omega); cases this)
      replace HP := hide (HP.out.below HBX.out HL3.out)
      replace HZ := hide (HZ.out.below HBX.out HL6.out)
      replace HB := hide (HB.out.trans (HBX.out.mono HLX.out))
      have k0 := HP.out.c0
      have k1 := HP.out.c1
      have z0 := HZ.out.c0
      have z1 := HZ.out.c1
      have g0 := HZ.out.fz 0
      have g1 := HZ.out.fz 1
      have HNE : ¬ B3 = B6 := H36.out
      have HNE2 : ¬ B6 = B3 := fun e => HNE e.symm
      obtain ⟨bv, hbv⟩ : ∃ bv, decide ((m : Int) < (k : Int)) = bv := ⟨_, rfl⟩
      have HBV : Hid (bv = hasE es key) := by show _ = _; rw [← hbv]; exact HV.out
      have hbv2 : decide (m < k) = bv := by rw [← hbv]; simp
      clear HV HM HO HTK HBX
      go_wp2_with fail
      go_region
      all_goals
        go_wp2_with fail
        exact bodyPost_ret (v := .tuple #[.agg #[.int .i64 lsn, .slice a1 m c1], .bool bv]) (by simp [results, Tryd.results23, go_sem, *]) rfl ⟨a1, m, c1, by rw [HBV.out], HM2.out, (HO2.out.setPage HZ.out 0 _).setPage (set_block HZ.out 0 _) 1 _, ((below_drew HB.out).setCell (p := ⟨B6, 0, none⟩) HLO.out _).setCell (p := ⟨B6, 1, none⟩) HLO.out _⟩
end Go.Proofs.YtdijgpkcolpfoaaDoor

/- What the document's own Put answers, in one word; what page.Put answers, in the same words. -/
namespace Go.Proofs.YtdijgpkcolpfoaaDoor
open Go.RowKit
set_option linter.unusedVariables false

theorem rput_some (lsn : Int) (ao : Option Addr) (n c : Nat) (es : List (Int × Int)) (key v : Int) (w : World) (h : EntRow w ao es) (hu : Up es) (hn : es.length = n) (hn9 : n ≤ 100) (hroom : hasE es key = true ∨ n < 20) :
    Calls Tryd.prog 22 #[pageV lsn ao n c, .int .i64 key, .int .i64 v] w fun r w' => ∃ ao' m c', r = .returned (.tuple #[pageV lsn ao' m c', .bool true]) ∧ (insE key v es).length = m ∧ OwnE w' w.heap.size ao' c' (insE key v es) ∧ Below w.heap.size w w' := by
  cases hh : hasE es key with
  | true => exact rput_has lsn ao n c es key v w h hu hn hn9 hh
  | false =>
    rw [hh] at hroom
    rcases hroom with h1 | h1
    · cases h1
    · exact rput_room lsn ao n c es key v w h hu hn hn9 hh h1
/-- What a Put answers: the page, and whether there was room. -/
def canPut (es : List (Int × Int)) (key : Int) : Bool := hasE es key || decide (es.length < 20)
def putL (lsn : Int) (es : List (Int × Int)) (key : Int) : Int := if canPut es key = true then lsn else 0
def putE (es : List (Int × Int)) (key v : Int) : List (Int × Int) := if canPut es key = true then insE key v es else []
/-- The answer of a Put, by the code or the document. -/
def PutPost (w : World) (lsn : Int) (es : List (Int × Int)) (key v : Int) (r : Ending) (w' : World) : Prop := ∃ ao' m c', r = .returned (.tuple #[pageV (putL lsn es key) ao' m c', .bool (canPut es key)]) ∧ (putE es key v).length = m ∧ OwnE w' w.heap.size ao' c' (putE es key v) ∧ Below w.heap.size w w'
theorem rput_any (lsn : Int) (ao : Option Addr) (n c : Nat) (es : List (Int × Int)) (key v : Int) (w : World) (h : EntRow w ao es) (hu : Up es) (hn : es.length = n) (hn9 : n ≤ 100) :
    Calls Tryd.prog 22 #[pageV lsn ao n c, .int .i64 key, .int .i64 v] w (PutPost w lsn es key v) := by
  unfold PutPost putL putE
  cases hh : canPut es key with
  | true =>
    rw [if_pos rfl, if_pos rfl]
    refine rput_some lsn ao n c es key v w h hu hn hn9 ?_
    unfold canPut at hh
    rw [Bool.or_eq_true, decide_eq_true_eq, hn] at hh
    exact hh
  | false =>
    rw [if_neg (by simp), if_neg (by simp)]
    unfold canPut at hh
    rw [Bool.or_eq_false_iff, decide_eq_false_iff_not, hn] at hh
    refine (rput_full lsn ao n c es key v w h hn hh.1 (by omega)).mono ?_
    rintro r w' ⟨rfl, hb⟩
    exact ⟨none, 0, 0, rfl, rfl, ownE_nil _ _, hb⟩
theorem pput_any (lsn : Int) (ao : Option Addr) (n c : Nat) (es : List (Int × Int)) (key v : Int) (w : World) (h : EntRow w ao es) (hu : Up es) (hn : es.length = n) :
    Calls Tryd.prog 21 #[pageV lsn ao n c, .int .i64 key, .int .i64 v] w (PutPost w lsn es key v) := by
  unfold PutPost putL putE canPut
  have hl := len_ins es hu key v
  cases hh : hasE es key with
  | true =>
    rw [Bool.true_or, if_pos rfl, if_pos rfl]
    rw [hh, if_pos rfl, hn] at hl
    refine (put_yes lsn ao n c es key v w h hu hn hh).mono ?_
    rintro r w' ⟨a, d, rfl, ho, hb⟩
    exact ⟨a, n, d, rfl, by omega, ho, hb⟩
  | false =>
    rw [hh, if_neg (by simp), hn] at hl
    by_cases h20 : n < 20
    · rw [Bool.false_or, hn, decide_eq_true h20, if_pos rfl, if_pos rfl]
      refine (put_new lsn ao n c es key v w h hu hn hh h20).mono ?_
      rintro r w' ⟨a, d, rfl, ho, hb⟩
      exact ⟨a, n + 1, d, rfl, by omega, ho, hb⟩
    · rw [Bool.false_or, hn, decide_eq_false h20, if_neg (by simp), if_neg (by simp)]
      refine (put_full lsn ao n c es key v w h hn hh (by omega)).mono ?_
      rintro r w' ⟨rfl, hb⟩
      exact ⟨none, 0, 0, rfl, rfl, ownE_nil _ _, hb⟩
end Go.Proofs.YtdijgpkcolpfoaaDoor

/- What change.changes, change.done and change.Redo answer. -/
namespace Go.Proofs.YtdijgpkcolpfoaaDoor
open Go.RowKit
set_option linter.unusedVariables false

theorem Cells10.step {w w' : World} {B : Nat} {r : R} (h : Cells10 w B r) (hb : Below w.heap.size w w') : Cells10 w' B r := h.below hb (Nat.le_refl _)
theorem boxes3 (w : World) (lsn : Int) (ao : Option Addr) (n c : Nat) (r : R) {es : List (Int × Int)} (h : EntRow w ao es) : ∃ X, X = ((w.alloc (pageBlock lsn ao n c)).alloc (recCells r)).alloc (pageBlock 0 none 0 0) ∧ PBlk X w.heap.size lsn ao n c ∧ Cells10 X (w.heap.size + 1) r ∧ PBlk X (w.heap.size + 1 + 1) 0 none 0 0 ∧ EntRow X ao es ∧ Below w.heap.size w X := by
  have hb1 := below_box w (pageBlock lsn ao n c)
  have hb2 := below_box (w.alloc (pageBlock lsn ao n c)) (recCells r)
  have hb3 := below_box ((w.alloc (pageBlock lsn ao n c)).alloc (recCells r)) (pageBlock 0 none 0 0)
  have hs1 : (w.alloc (pageBlock lsn ao n c)).heap.size = w.heap.size + 1 := by simp
  have hs2 : ((w.alloc (pageBlock lsn ao n c)).alloc (recCells r)).heap.size = w.heap.size + 1 + 1 := by simp
  have hb := over (over hb1 hb2 hb1.size) hb3 (over hb1 hb2 hb1.size).size
  have hr := cells10_new (w.alloc (pageBlock lsn ao n c)) r
  have hz := pblk_new ((w.alloc (pageBlock lsn ao n c)).alloc (recCells r)) 0 none 0 0
  rw [hs1] at hr
  rw [hs2] at hz
  exact ⟨_, rfl, ((pblk_new w lsn ao n c).step hb2).step hb3, hr.step hb3, hz, h.below hb (Nat.le_refl _), hb⟩
/-- Is a record a change? -/
def isChg (r : R) : Bool := decide (r.kind = 2) || decide (r.kind = 3)
set_option maxRecDepth 100000 in
set_option maxHeartbeats 1000000 in
theorem pgchg_any (r : R) (w : World) : Calls Tryd.prog 43 #[r.val] w fun e w' => e = .returned (.bool (isChg r)) ∧ Below w.heap.size w w' := by
  obtain ⟨k, a1, a2, a3, a4, a5, a6, a7, a8, a9⟩ := r
  have HB := hide (below_box w (recCells ⟨k, a1, a2, a3, a4, a5, a6, a7, a8, a9⟩))
  unfold recCells at HB
  unfold R.val
  simp only at HB ⊢
  by_cases h2 : k = 2
  · have HV : Hid (isChg ⟨k, a1, a2, a3, a4, a5, a6, a7, a8, a9⟩ = true) := by show _ = _; simp [isChg, h2]
    subst h2
    go_enter Tryd.func43, Tryd.ntmps43
    go_wp2_with fail
    go_ret
    exact ⟨ret_bool HV.out.symm, below_box w _⟩
  · have h2' : (k == 2) = false := by simpa using h2
    by_cases h3 : k = 3
    · have HV : Hid (isChg ⟨k, a1, a2, a3, a4, a5, a6, a7, a8, a9⟩ = true) := by show _ = _; simp [isChg, h3]
      subst h3
      go_enter Tryd.func43, Tryd.ntmps43
      go_wp2_with fail
      go_ret
      exact ⟨ret_bool HV.out.symm, below_box w _⟩
    · have h3' : (k == 3) = false := by simpa using h3
      have HV : Hid (isChg ⟨k, a1, a2, a3, a4, a5, a6, a7, a8, a9⟩ = false) := by show _ = _; simp [isChg, h2, h3]
      go_enter Tryd.func43, Tryd.ntmps43
      go_wp2_with fail
      go_ret
      exact ⟨ret_bool HV.out.symm, below_box w _⟩
/-- What a change makes of a page. -/
def okD (r : R) (es : List (Int × Int)) : Bool := !r.has || canPut es r.key
def doneL (lsn : Int) (r : R) (es : List (Int × Int)) : Int := if r.has = true then putL lsn es r.key else lsn
def doneE (r : R) (es : List (Int × Int)) : List (Int × Int) := if r.has = true then putE es r.key r.new else remE r.key es
def DonePost (w : World) (lsn : Int) (es : List (Int × Int)) (r : R) (e : Ending) (w' : World) : Prop := ∃ ao' m c', e = .returned (.tuple #[pageV (doneL lsn r es) ao' m c', .bool (okD r es)]) ∧ (doneE r es).length = m ∧ OwnE w' w.heap.size ao' c' (doneE r es) ∧ Below w.heap.size w w'
set_option maxRecDepth 100000 in
set_option maxHeartbeats 2000000 in
theorem done_any (lsn : Int) (ao : Option Addr) (n c : Nat) (es : List (Int × Int)) (r : R) (w : World) (h : EntRow w ao es) (hu : Up es) (hn : es.length = n) :
    Calls Tryd.prog 44 #[pageV lsn ao n c, r.val] w (DonePost w lsn es r) := by
  obtain ⟨X, hX, hp, hc, hz, hrow, hb⟩ := boxes3 w lsn ao n c r h
  have HX := hide hX
  obtain ⟨B3, hB3⟩ : ∃ B3, B3 = w.heap.size := ⟨_, rfl⟩
  have HB3 := hide hB3
  rw [← hB3] at hp hc hz
  obtain ⟨B4, hB4⟩ : ∃ B4, B4 = B3 + 1 := ⟨_, rfl⟩
  have HB4 := hide hB4
  rw [← hB4] at hc hz
  obtain ⟨B5, hB5⟩ : ∃ B5, B5 = B4 + 1 := ⟨_, rfl⟩
  have HB5 := hide hB5
  rw [← hB5] at hz
  have HLO : Hid (w.heap.size ≤ B5) := by show w.heap.size ≤ B5; omega
  have HLX := hide hb.size
  have HP := hide hp
  have HC := hide hc
  have HZ := hide hz
  have HB := hide hb
  cases hhas : r.has with
  | true =>
    have HPOST : Hid (∀ e w', PutPost X lsn es r.key r.new e w' → ∃ ao' m c', e = .returned (.tuple #[pageV (doneL lsn r es) ao' m c', .bool (okD r es)]) ∧ (doneE r es).length = m ∧ OwnE w' w.heap.size ao' c' (doneE r es) ∧ Below X.heap.size X w') := by
      rintro e w' ⟨a, m, d, rfl, hm, ho, hb⟩
      unfold doneL doneE okD
      rw [hhas, if_pos rfl, if_pos rfl]
      exact ⟨a, m, d, rfl, hm, ho.mono HLX.out, hb⟩
    have HPUT := hide (pput_any lsn ao n c es r.key r.new X hrow hu hn)
    clear hX hp hc hz hrow hb hB3 hB4 hB5 h hu hn
    obtain ⟨k, b1, b2, b3, b4, key, b6, has, b8, new⟩ := r
    simp only at hhas HPOST HPUT
    subst hhas
    unfold pageBlock recCells at HX
    unfold pageV R.val DonePost
    simp only at HX ⊢
    go_enter Tryd.func44, Tryd.ntmps44
    go_upto_region 1 with fail
    rw [← HX.out, ← HB3.out, ← HB4.out, ← HB5.out]
    clear HX HB3 HB4 HB5
    have k0 := HP.out.c0
    have k1 := HP.out.c1
    have r5 := HC.out.c5
    have r7 := HC.out.c7
    have r9 := HC.out.c9
    simp only at r5 r7 r9
    go_wp2_with fail
    refine HPUT.out.mono ?_
    rintro e x1 hpp
    obtain ⟨a, m, d, rfl, hm, ho, hb⟩ := HPOST.out e x1 hpp
    replace HZ := hide (HZ.out.step hb)
    replace HB := hide (over HB.out hb HB.out.size)
    have HO := hide ho
    have HM := hide hm
    clear hpp hm ho hb k0 k1 r5 r7 r9 HPUT HPOST
    have z0 := HZ.out.c0
    have z1 := HZ.out.c1
    have g0 := HZ.out.fz 0
    have g1 := HZ.out.fz 1
    unfold pageV
    go_wp2_with fail
    exact bodyPost_ret (by simp [results, Tryd.results44, go_sem, z0, z1]; rfl) rfl ⟨a, m, d, rfl, HM.out, (HO.out.setPage HZ.out 0 _).setPage (set_block HZ.out 0 _) 1 _, (HB.out.setCell (p := ⟨B5, 0, none⟩) HLO.out _).setCell (p := ⟨B5, 1, none⟩) HLO.out _⟩
  | false =>
    have HREM : Hid (Calls Tryd.prog 23 #[pageV lsn ao n c, .int .i64 r.key] X fun e w' => ∃ ao' m c', e = .returned (.tuple #[pageV (doneL lsn r es) ao' m c', .bool (hasE es r.key)]) ∧ (doneE r es).length = m ∧ OwnE w' w.heap.size ao' c' (doneE r es) ∧ Below X.heap.size X w') := by
      unfold doneL doneE
      rw [hhas, if_neg (by simp), if_neg (by simp)]
      refine (rem_any lsn ao n c es r.key X hrow hn).mono ?_
      rintro e w' ⟨a, m, d, rfl, hm, ho, hb⟩
      exact ⟨a, m, d, rfl, hm, ho.mono HLX.out, hb⟩
    have HOKD : Hid (okD r es = true) := by show _ = _; unfold okD; rw [hhas]; rfl
    clear hX hp hc hz hrow hb hB3 hB4 hB5 h hu hn
    obtain ⟨k, b1, b2, b3, b4, key, b6, has, b8, new⟩ := r
    simp only at hhas HREM
    subst hhas
    unfold pageBlock recCells at HX
    unfold pageV R.val DonePost
    simp only at HX ⊢
    rw [HOKD.out]
    go_enter Tryd.func44, Tryd.ntmps44
    go_upto_region 1 with fail
    rw [← HX.out, ← HB3.out, ← HB4.out, ← HB5.out]
    clear HX HB3 HB4 HB5
    have k0 := HP.out.c0
    have k1 := HP.out.c1
    have r5 := HC.out.c5
    have r7 := HC.out.c7
    simp only at r5 r7
    go_wp2_with fail
    refine HREM.out.mono ?_
    rintro e x1 ⟨a, m, d, rfl, hm, ho, hb⟩
    obtain ⟨L, hL⟩ : ∃ L, L = doneL lsn ⟨k, b1, b2, b3, b4, key, b6, false, b8, new⟩ es := ⟨_, rfl⟩
    obtain ⟨bh, hbh⟩ : ∃ bh, bh = hasE es key := ⟨_, rfl⟩
    rw [← hL, ← hbh]
    have HL := hide hL
    have HZ0 := HZ.out.lt
    replace HZ := hide (HZ.out.step hb)
    replace HB := hide (over HB.out hb HB.out.size)
    have hbx := below_box x1 (pageBlock L a m d)
    have HQ := hide (pblk_new x1 L a m d)
    have HO := hide (ho.step hbx)
    have HM := hide hm
    have HNE : Hid (x1.heap.size ≠ B5) := by show _ ≠ B5; have := HZ.out.lt; omega
    replace HZ := hide (HZ.out.step hbx)
    replace HB := hide (over HB.out hbx HB.out.size)
    unfold pageBlock at HQ HO HZ HB
    clear hm ho hb hbx k0 k1 r5 r7 HREM hL hbh HZ0
    unfold pageV
    go_upto_region 4 with fail
    obtain ⟨Y, hY⟩ : ∃ Y, Y = x1.alloc (.cells #[.int .i64 L, .slice a m d] 24) := ⟨_, rfl⟩
    rw [← hY] at HQ HO HZ HB ⊢
    clear hY
    obtain ⟨Q, hQ⟩ : ∃ Q, Q = x1.heap.size := ⟨_, rfl⟩
    rw [← hQ] at HQ HNE ⊢
    clear hQ
    have q0 := HQ.out.c0
    have q1 := HQ.out.c1
    have z0 := HZ.out.c0
    have z1 := HZ.out.c1
    have g0 := HZ.out.fz 0
    have g1 := HZ.out.fz 1
    go_wp2_with fail
    exact bodyPost_ret (v := .tuple #[.agg #[.int .i64 L, .slice a m d], .bool true]) (by simp [results, Tryd.results44, go_sem, z0, z1]) rfl ⟨a, m, d, by rw [HL.out]; rfl, HM.out, (HO.out.setPage HZ.out 0 _).setPage (set_block HZ.out 0 _) 1 _, (HB.out.setCell (p := ⟨B5, 0, none⟩) HLO.out _).setCell (p := ⟨B5, 1, none⟩) HLO.out _⟩
/-- Is nothing to be done? -/
def skipD (lsnP lsn : Int) (r : R) : Bool := !isChg r || decide (lsn ≤ lsnP)
set_option maxRecDepth 100000 in
set_option maxHeartbeats 4000000 in
theorem redo_skip (lsnP lsn : Int) (ao : Option Addr) (n c : Nat) (es : List (Int × Int)) (r : R) (w : World) (h : EntRow w ao es) (hn : es.length = n) (hs : skipD lsnP lsn r = true) :
    Calls Tryd.prog 27 #[pageV lsnP ao n c, .int .i64 lsn, r.val] w fun e w' => ∃ ao' c', e = .returned (.tuple #[pageV lsnP ao' n c', .bool false, .nilIface]) ∧ OwnE w' w.heap.size ao' c' es ∧ Below w.heap.size w w' := by
  obtain ⟨X, hX, hp, hc, hz, hrow, hb⟩ := boxes3 w lsnP ao n c r h
  have HX := hide hX
  obtain ⟨B3, hB3⟩ : ∃ B3, B3 = w.heap.size := ⟨_, rfl⟩
  have HB3 := hide hB3
  rw [← hB3] at hp hc hz
  obtain ⟨B4, hB4⟩ : ∃ B4, B4 = B3 + 1 := ⟨_, rfl⟩
  have HB4 := hide hB4
  rw [← hB4] at hc hz
  obtain ⟨B5, hB5⟩ : ∃ B5, B5 = B4 + 1 := ⟨_, rfl⟩
  have HB5 := hide hB5
  rw [← hB5] at hz
  have HLO : Hid (w.heap.size ≤ B5) := by show w.heap.size ≤ B5; omega
  have HLX := hide hb.size
  have HP := hide hp
  have HC := hide hc
  have HZ := hide hz
  have HB := hide hb
  have HCH := hide (pgchg_any r X)
  have HROW := hide hrow
  have HN := hide hn
  have hsk : isChg r = false ∨ (isChg r = true ∧ lsn ≤ lsnP) := by
    unfold skipD at hs
    cases hq : isChg r with
    | false => exact .inl rfl
    | true => rw [hq] at hs; exact .inr ⟨rfl, by simpa using hs⟩
  obtain ⟨cb, hcb⟩ : ∃ cb, cb = isChg r := ⟨_, rfl⟩
  rw [← hcb] at hsk HCH
  clear hX hp hc hz hrow hb hB3 hB4 hB5 h hn hs hcb
  obtain ⟨k, b1, b2, b3, b4, key, b6, has, b8, new⟩ := r
  unfold pageBlock recCells at HX
  unfold pageV
  unfold R.val at HCH ⊢
  simp only at HX HCH ⊢
  have r0 := HC.out.c0
  have r1 := HC.out.c1
  have r2 := HC.out.c2
  have r3 := HC.out.c3
  have r4 := HC.out.c4
  have r5 := HC.out.c5
  have r6 := HC.out.c6
  have r7 := HC.out.c7
  have r8 := HC.out.c8
  have r9 := HC.out.c9
  simp only at r0 r1 r2 r3 r4 r5 r6 r7 r8 r9
  have HT : Hid (∀ (x1 : World), Below X.heap.size X x1 → Calls Tryd.prog 39 #[.slice ao n c] x1.drew fun e w' => ∃ ao' c', e = .returned (.slice ao' n c') ∧ OwnE w' X.heap.size ao' c' es ∧ Below x1.heap.size x1 w') := by
    intro x1 hb
    refine (clone_any ao n c es x1.drew ((HROW.out.step hb).drew) HN.out).mono ?_
    rintro e w' ⟨a, d, rfl, ho, hb2⟩
    exact ⟨a, d, rfl, ho.mono hb.size, of_drew hb2⟩
  rcases hsk with rfl | ⟨rfl, hle⟩
  all_goals
    go_enter Tryd.func27, Tryd.ntmps27
    go_upto_region 1 with fail
    rw [← HX.out, ← HB3.out, ← HB4.out, ← HB5.out]
    go_wp2_with fail
    refine HCH.out.mono ?_
    rintro e x1 ⟨rfl, hb⟩
    have HP1 := hide (HP.out.step hb)
    have HZ1 := hide (HZ.out.step hb)
    have HBX := hide hb
    have HB1 := hide (over HB.out hb HB.out.size)
    have HCL := hide (HT.out x1 hb)
    clear hb r0 r1 r2 r3 r4 r5 r6 r7 r8 r9 HCH HT
    have k0 := HP1.out.c0
    have k1 := HP1.out.c1
    have z0 := HZ1.out.c0
    have z1 := HZ1.out.c1
    have g0 := HZ1.out.fz 0
    have g1 := HZ1.out.fz 1
    go_wp2_with fail
    go_region_with (go_at_call 39; refine HCL.out.mono ?_; rintro e w2 ⟨ao2, c2, rfl, hown, hb⟩; have P2 := HP1.out.step hb; have Z2 := HZ1.out.step hb; have K0 := P2.c0; have K1 := P2.c1; have Z0 := Z2.c0; have Z1 := Z2.c1; have F0 := Z2.fz 0; have F1 := Z2.fz 1; have HO := hide (hown.mono HLX.out); have HB2 := hide hb; have HZ2 := hide Z2; clear hown hb P2 Z2)
    all_goals
      go_wp2_with fail
      exact bodyPost_ret (v := .tuple #[.agg #[.int .i64 lsnP, .slice ao2 n c2], .bool false, .nilIface]) (by simp [results, Tryd.results27, go_sem, *]) rfl ⟨ao2, c2, rfl, (HO.out.setPage HZ2.out 0 _).setPage (set_block HZ2.out 0 _) 1 _, ((over HB1.out HB2.out HB1.out.size).setCell (p := ⟨B5, 0, none⟩) HLO.out _).setCell (p := ⟨B5, 1, none⟩) HLO.out _⟩
end Go.Proofs.YtdijgpkcolpfoaaDoor

/- What change.Redo answers of a change that is to be done: the page behind it, or ErrPage. -/
namespace Go.Proofs.YtdijgpkcolpfoaaDoor
open Go.RowKit
set_option linter.unusedVariables false

set_option maxRecDepth 100000 in
set_option maxHeartbeats 4000000 in
theorem redo_yes (lsnP lsn : Int) (ao : Option Addr) (n c : Nat) (es : List (Int × Int)) (r : R) (w : World) (h : EntRow w ao es) (hu : Up es) (hn : es.length = n) (hch : isChg r = true) (hlt : lsnP < lsn) (hok : okD r es = true) :
    Calls Tryd.prog 27 #[pageV lsnP ao n c, .int .i64 lsn, r.val] w fun e w' => ∃ ao' m c', e = .returned (.tuple #[pageV lsn ao' m c', .bool true, .nilIface]) ∧ (doneE r es).length = m ∧ OwnE w' w.heap.size ao' c' (doneE r es) ∧ Below w.heap.size w w' := by
  obtain ⟨X, hX, hp, hc, hz, hrow, hb⟩ := boxes3 w lsnP ao n c r h
  have HX := hide hX
  obtain ⟨B3, hB3⟩ : ∃ B3, B3 = w.heap.size := ⟨_, rfl⟩
  have HB3 := hide hB3
  rw [← hB3] at hp hc hz
  obtain ⟨B4, hB4⟩ : ∃ B4, B4 = B3 + 1 := ⟨_, rfl⟩
  have HB4 := hide hB4
  rw [← hB4] at hc hz
  obtain ⟨B5, hB5⟩ : ∃ B5, B5 = B4 + 1 := ⟨_, rfl⟩
  have HB5 := hide hB5
  rw [← hB5] at hz
  have HLO : Hid (w.heap.size ≤ B5) := by show w.heap.size ≤ B5; omega
  have HLX := hide hb.size
  have HP := hide hp
  have HC := hide hc
  have HZ := hide hz
  have HB := hide hb
  have HCH := hide (pgchg_any r X)
  rw [hch] at HCH
  have HDONE : Hid (∀ x, Below X.heap.size X x → Calls Tryd.prog 44 #[pageV lsnP ao n c, r.val] x (DonePost x lsnP es r)) := fun x hb => done_any lsnP ao n c es r x (hrow.step hb) hu hn
  have hle : decide (lsn ≤ lsnP) = false := by simp; omega
  obtain ⟨L, hL⟩ : ∃ L, L = doneL lsnP r es := ⟨_, rfl⟩
  obtain ⟨ok, hokk⟩ : ∃ ok, ok = okD r es := ⟨_, rfl⟩
  obtain ⟨E, hE⟩ : ∃ E, E = doneE r es := ⟨_, rfl⟩
  have HPOST : Hid (∀ x e w', DonePost x lsnP es r e w' → ∃ ao' m c', e = .returned (.tuple #[pageV L ao' m c', .bool ok]) ∧ E.length = m ∧ OwnE w' x.heap.size ao' c' E ∧ Below x.heap.size x w') := by
    rintro x e w' ⟨a, m, d, h1, h2, h3, h4⟩
    rw [← hL, ← hokk] at h1
    rw [← hE] at h2 h3
    exact ⟨a, m, d, h1, h2, h3, h4⟩
  rw [← hokk] at hok
  subst hok
  have HE : Hid (doneE r es = E) := hE.symm
  clear hX hp hc hz hrow hb hB3 hB4 hB5 h hu hn hch hL hE hokk
  obtain ⟨k, b1, b2, b3, b4, b5, b6, b7, b8, b9⟩ := r
  unfold pageBlock recCells at HX
  unfold pageV
  unfold R.val at HCH HDONE ⊢
  simp only at HX HCH HDONE ⊢
  have r0 := HC.out.c0
  have r1 := HC.out.c1
  have r2 := HC.out.c2
  have r3 := HC.out.c3
  have r4 := HC.out.c4
  have r5 := HC.out.c5
  have r6 := HC.out.c6
  have r7 := HC.out.c7
  have r8 := HC.out.c8
  have r9 := HC.out.c9
  simp only at r0 r1 r2 r3 r4 r5 r6 r7 r8 r9
  go_enter Tryd.func27, Tryd.ntmps27
  go_upto_region 1 with fail
  rw [← HX.out, ← HB3.out, ← HB4.out, ← HB5.out]
  clear HX HB3 HB4 HB5
  go_wp2_with fail
  refine HCH.out.mono ?_
  rintro e x1 ⟨rfl, hb⟩
  have HBX := hide hb
  replace HP := hide (HP.out.step hb)
  replace HC := hide (HC.out.step hb)
  replace HZ := hide (HZ.out.step hb)
  replace HB := hide (over HB.out hb HB.out.size)
  clear hb r0 r1 r2 r3 r4 r5 r6 r7 r8 r9 HCH
  have k0 := HP.out.c0
  have k1 := HP.out.c1
  have r0 := HC.out.c0
  have r1 := HC.out.c1
  have r2 := HC.out.c2
  have r3 := HC.out.c3
  have r4 := HC.out.c4
  have r5 := HC.out.c5
  have r6 := HC.out.c6
  have r7 := HC.out.c7
  have r8 := HC.out.c8
  have r9 := HC.out.c9
  simp only at r0 r1 r2 r3 r4 r5 r6 r7 r8 r9
  go_wp2_with fail
  refine (HDONE.out _ HBX.out).mono ?_
  rintro e x2 hpp
  obtain ⟨a, m, d, rfl, hm, ho, hb⟩ := HPOST.out _ _ _ hpp
  clear hpp k0 k1 r0 r1 r2 r3 r4 r5 r6 r7 r8 r9 HDONE HPOST HC HP
  replace HZ := hide (HZ.out.step hb)
  have HO0 := hide (ho.mono HB.out.size)
  replace HB := hide (over HB.out hb HB.out.size)
  have HM := hide hm
  have hbx := below_box x2 (pageBlock L a m d)
  have HQ := hide (pblk_new x2 L a m d)
  have HO := hide (HO0.out.step hbx)
  have HNE : Hid (x2.heap.size ≠ B5) := by show _ ≠ B5; have := HZ.out.lt; omega
  have HLQ : Hid (w.heap.size ≤ x2.heap.size) := HB.out.size
  replace HZ := hide (HZ.out.step hbx)
  replace HB := hide (over HB.out hbx HB.out.size)
  clear hm ho hb hbx HBX HO0
  unfold pageBlock at HQ HO HZ HB
  unfold pageV
  go_upto_region 4 with fail
  obtain ⟨Y, hY⟩ : ∃ Y, Y = x2.alloc (.cells #[.int .i64 L, .slice a m d] 24) := ⟨_, rfl⟩
  rw [← hY] at HQ HO HZ HB ⊢
  clear hY
  obtain ⟨Q, hQ⟩ : ∃ Q, Q = x2.heap.size := ⟨_, rfl⟩
  rw [← hQ] at HQ HNE HLQ ⊢
  clear hQ
  have q0 := HQ.out.c0
  have g0 := HQ.out.fz 0
  go_upto_region 7 with fail
  clear q0 g0
  have HQ2 := hide (HQ.out.putL lsn)
  replace HO := hide (HO.out.setPage HQ.out 0 (.int .i64 lsn))
  replace HZ := hide (HZ.out.far HNE.out 0 (.int .i64 lsn))
  replace HB := hide (HB.out.setCell (p := ⟨Q, 0, none⟩) HLQ.out (.int .i64 lsn))
  obtain ⟨Y2, hY⟩ : ∃ Y2, Y2 = Y.setCell ⟨Q, 0, none⟩ (.int .i64 lsn) := ⟨_, rfl⟩
  rw [← hY] at HQ2 HO HZ HB ⊢
  clear hY HQ
  have q0 := HQ2.out.c0
  have q1 := HQ2.out.c1
  have z0 := HZ.out.c0
  have z1 := HZ.out.c1
  have g0 := HZ.out.fz 0
  have g1 := HZ.out.fz 1
  go_wp2_with fail
  exact bodyPost_ret (v := .tuple #[.agg #[.int .i64 lsn, .slice a m d], .bool true, .nilIface]) (by simp [results, Tryd.results27, go_sem, z0, z1]) rfl ⟨a, m, d, rfl, by rw [HE.out]; exact HM.out, by rw [HE.out]; exact (HO.out.setPage HZ.out 0 _).setPage (set_block HZ.out 0 _) 1 _, (HB.out.setCell (p := ⟨B5, 0, none⟩) HLO.out _).setCell (p := ⟨B5, 1, none⟩) HLO.out _⟩
set_option maxRecDepth 100000 in
set_option maxHeartbeats 4000000 in
theorem redo_no (lsnP lsn : Int) (ao : Option Addr) (n c : Nat) (es : List (Int × Int)) (r : R) (w : World) {z : Addr} (hE0 : w.cell? ⟨2, 0, none⟩ = some (errV z)) (h : EntRow w ao es) (hu : Up es) (hn : es.length = n) (hch : isChg r = true) (hlt : lsnP < lsn) (hok : okD r es = false) :
    Calls Tryd.prog 27 #[pageV lsnP ao n c, .int .i64 lsn, r.val] w fun e w' => e = .returned (.tuple #[pageV 0 none 0 0, .bool false, errV z]) ∧ Below w.heap.size w w' := by
  have HE0 := hide hE0
  have HLT : Hid (2 < w.heap.size) := World.block_lt_of_cell? w _ hE0
  clear hE0
  obtain ⟨X, hX, hp, hc, hz, hrow, hb⟩ := boxes3 w lsnP ao n c r h
  have HX := hide hX
  obtain ⟨B3, hB3⟩ : ∃ B3, B3 = w.heap.size := ⟨_, rfl⟩
  have HB3 := hide hB3
  rw [← hB3] at hp hc hz
  obtain ⟨B4, hB4⟩ : ∃ B4, B4 = B3 + 1 := ⟨_, rfl⟩
  have HB4 := hide hB4
  rw [← hB4] at hc hz
  obtain ⟨B5, hB5⟩ : ∃ B5, B5 = B4 + 1 := ⟨_, rfl⟩
  have HB5 := hide hB5
  rw [← hB5] at hz
  have HLO : Hid (w.heap.size ≤ B5) := by show w.heap.size ≤ B5; omega
  have HLX := hide hb.size
  have HP := hide hp
  have HC := hide hc
  have HZ := hide hz
  have HB := hide hb
  have HCH := hide (pgchg_any r X)
  rw [hch] at HCH
  have HDONE : Hid (∀ x, Below X.heap.size X x → Calls Tryd.prog 44 #[pageV lsnP ao n c, r.val] x (DonePost x lsnP es r)) := fun x hb => done_any lsnP ao n c es r x (hrow.step hb) hu hn
  have hle : decide (lsn ≤ lsnP) = false := by simp; omega
  obtain ⟨L, hL⟩ : ∃ L, L = doneL lsnP r es := ⟨_, rfl⟩
  obtain ⟨ok, hokk⟩ : ∃ ok, ok = okD r es := ⟨_, rfl⟩
  obtain ⟨E, hE⟩ : ∃ E, E = doneE r es := ⟨_, rfl⟩
  have HPOST : Hid (∀ x e w', DonePost x lsnP es r e w' → ∃ ao' m c', e = .returned (.tuple #[pageV L ao' m c', .bool ok]) ∧ E.length = m ∧ OwnE w' x.heap.size ao' c' E ∧ Below x.heap.size x w') := by
    rintro x e w' ⟨a, m, d, h1, h2, h3, h4⟩
    rw [← hL, ← hokk] at h1
    rw [← hE] at h2 h3
    exact ⟨a, m, d, h1, h2, h3, h4⟩
  rw [← hokk] at hok
  subst hok
  clear hX hp hc hz hrow hb hB3 hB4 hB5 h hu hn hch hL hE hokk
  obtain ⟨k, b1, b2, b3, b4, b5, b6, b7, b8, b9⟩ := r
  unfold pageBlock recCells at HX
  unfold pageV
  unfold R.val at HCH HDONE ⊢
  simp only at HX HCH HDONE ⊢
  have r0 := HC.out.c0
  have r1 := HC.out.c1
  have r2 := HC.out.c2
  have r3 := HC.out.c3
  have r4 := HC.out.c4
  have r5 := HC.out.c5
  have r6 := HC.out.c6
  have r7 := HC.out.c7
  have r8 := HC.out.c8
  have r9 := HC.out.c9
  simp only at r0 r1 r2 r3 r4 r5 r6 r7 r8 r9
  go_enter Tryd.func27, Tryd.ntmps27
  go_upto_region 1 with fail
  rw [← HX.out, ← HB3.out, ← HB4.out, ← HB5.out]
  clear HX HB3 HB4 HB5
  go_wp2_with fail
  refine HCH.out.mono ?_
  rintro e x1 ⟨rfl, hb⟩
  have HBX := hide hb
  replace HP := hide (HP.out.step hb)
  replace HC := hide (HC.out.step hb)
  replace HZ := hide (HZ.out.step hb)
  replace HB := hide (over HB.out hb HB.out.size)
  clear hb r0 r1 r2 r3 r4 r5 r6 r7 r8 r9 HCH
  have k0 := HP.out.c0
  have k1 := HP.out.c1
  have r0 := HC.out.c0
  have r1 := HC.out.c1
  have r2 := HC.out.c2
  have r3 := HC.out.c3
  have r4 := HC.out.c4
  have r5 := HC.out.c5
  have r6 := HC.out.c6
  have r7 := HC.out.c7
  have r8 := HC.out.c8
  have r9 := HC.out.c9
  simp only at r0 r1 r2 r3 r4 r5 r6 r7 r8 r9
  go_wp2_with fail
  refine (HDONE.out _ HBX.out).mono ?_
  rintro e x2 hpp
  obtain ⟨a, m, d, rfl, hm, ho, hb⟩ := HPOST.out _ _ _ hpp
  clear hpp k0 k1 r0 r1 r2 r3 r4 r5 r6 r7 r8 r9 HDONE HPOST HC HP
  replace HZ := hide (HZ.out.step hb)
  have HO0 := hide (ho.mono HB.out.size)
  replace HB := hide (over HB.out hb HB.out.size)
  have HM := hide hm
  have hbx := below_box x2 (pageBlock L a m d)
  have HQ := hide (pblk_new x2 L a m d)
  have HO := hide (HO0.out.step hbx)
  have HNE : Hid (x2.heap.size ≠ B5) := by show _ ≠ B5; have := HZ.out.lt; omega
  have HLQ : Hid (w.heap.size ≤ x2.heap.size) := HB.out.size
  replace HZ := hide (HZ.out.step hbx)
  replace HB := hide (over HB.out hbx HB.out.size)
  clear hm ho hb hbx HBX HO0
  unfold pageBlock at HQ HO HZ HB
  unfold pageV
  go_upto_region 4 with fail
  obtain ⟨Y, hY⟩ : ∃ Y, Y = x2.alloc (.cells #[.int .i64 L, .slice a m d] 24) := ⟨_, rfl⟩
  rw [← hY] at HQ HO HZ HB ⊢
  clear hY
  obtain ⟨Q, hQ⟩ : ∃ Q, Q = x2.heap.size := ⟨_, rfl⟩
  rw [← hQ] at HQ HNE HLQ ⊢
  clear hQ
  have e0 := (HB.out.cell (p := ⟨2, 0, none⟩) HLT.out).trans HE0.out
  have hne : ¬ 2 = B5 := by have := HLT.out; have := HLO.out; omega
  have hne2 : ¬ B5 = 2 := fun e => hne e.symm
  have z0 := HZ.out.c0
  have z1 := HZ.out.c1
  have g0 := HZ.out.fz 0
  have g1 := HZ.out.fz 1
  unfold errV at *
  go_wp2_with fail
  go_region
  all_goals
    go_wp2_with fail
    exact bodyPost_ret (v := .tuple #[.agg #[.int .i64 0, .slice none 0 0], .bool false, .iface 102 (.pointer (some z))]) (by simp [results, Tryd.results27, go_sem, *]) rfl ⟨rfl, ((below_drew HB.out).setCell (p := ⟨B5, 0, none⟩) HLO.out _).setCell (p := ⟨B5, 1, none⟩) HLO.out _⟩
end Go.Proofs.YtdijgpkcolpfoaaDoor

/- What change.Undo answers; and what the chapter's examples on changes are. -/
namespace Go.Proofs.YtdijgpkcolpfoaaDoor
open Go.RowKit
set_option linter.unusedVariables false

/-- What undoes a record. -/
def undoR (r : R) (lsn last next : Int) : R := if r.kind = 2 then ⟨3, r.txn, r.page, last, next, r.key, true, r.had, lsn, r.old⟩ else ⟨0, 0, 0, 0, 0, 0, false, false, 0, 0⟩
theorem undoR_yes {r : R} (h : r.kind = 2) (lsn last next : Int) : undoR r lsn last next = ⟨3, r.txn, r.page, last, next, r.key, true, r.had, lsn, r.old⟩ := by unfold undoR; rw [if_pos h]
theorem undoR_no {r : R} (h : ¬ r.kind = 2) (lsn last next : Int) : undoR r lsn last next = ⟨0, 0, 0, 0, 0, 0, false, false, 0, 0⟩ := by unfold undoR; rw [if_neg h]
theorem set10 {B : Nat} {a w : World} (h : Below B a w) {Q : Nat} (hQ : B ≤ Q) (v0 v1 v2 v3 v4 v5 v6 v7 v8 v9 : Value) : Below B a ((((((((((w.setCell ⟨Q, 0, none⟩ v0).setCell ⟨Q, 1, none⟩ v1).setCell ⟨Q, 2, none⟩ v2).setCell ⟨Q, 3, none⟩ v3).setCell ⟨Q, 4, none⟩ v4).setCell ⟨Q, 5, none⟩ v5).setCell ⟨Q, 6, none⟩ v6).setCell ⟨Q, 7, none⟩ v7).setCell ⟨Q, 8, none⟩ v8).setCell ⟨Q, 9, none⟩ v9) :=
  (((((((((h.setCell (p := ⟨Q, 0, none⟩) hQ v0).setCell (p := ⟨Q, 1, none⟩) hQ v1).setCell (p := ⟨Q, 2, none⟩) hQ v2).setCell (p := ⟨Q, 3, none⟩) hQ v3).setCell (p := ⟨Q, 4, none⟩) hQ v4).setCell (p := ⟨Q, 5, none⟩) hQ v5).setCell (p := ⟨Q, 6, none⟩) hQ v6).setCell (p := ⟨Q, 7, none⟩) hQ v7).setCell (p := ⟨Q, 8, none⟩) hQ v8).setCell (p := ⟨Q, 9, none⟩) hQ v9
set_option maxRecDepth 100000 in
set_option maxHeartbeats 4000000 in
theorem undo_any (r : R) (lsn last next : Int) (w : World) (h0 : -9223372036854775808 ≤ lsn ∧ lsn ≤ 9223372036854775807) : Calls Tryd.prog 42 #[r.val, .int .i64 lsn, .int .i64 last, .int .i64 next] w fun e w' => e = .returned (.tuple #[(undoR r lsn last next).val, .bool (decide (r.kind = 2))]) ∧ Below w.heap.size w w' := by
  obtain ⟨k, b1, b2, b3, b4, b5, b6, b7, b8, b9⟩ := r
  have hb1 := below_box w (recCells ⟨k, b1, b2, b3, b4, b5, b6, b7, b8, b9⟩)
  have hb2 := below_box (w.alloc (recCells ⟨k, b1, b2, b3, b4, b5, b6, b7, b8, b9⟩)) (recCells ⟨0, 0, 0, 0, 0, 0, false, false, 0, 0⟩)
  have HB := hide (over hb1 hb2 hb1.size)
  have hsz : (w.alloc (recCells ⟨k, b1, b2, b3, b4, b5, b6, b7, b8, b9⟩)).heap.size = w.heap.size + 1 := by simp
  have hc := (cells10_new w ⟨k, b1, b2, b3, b4, b5, b6, b7, b8, b9⟩).step hb2
  have hz := cells10_new (w.alloc (recCells ⟨k, b1, b2, b3, b4, b5, b6, b7, b8, b9⟩)) ⟨0, 0, 0, 0, 0, 0, false, false, 0, 0⟩
  have hl := heap_alloc_new (w.alloc (recCells ⟨k, b1, b2, b3, b4, b5, b6, b7, b8, b9⟩)) (recCells ⟨0, 0, 0, 0, 0, 0, false, false, 0, 0⟩)
  rw [hsz] at hz hl
  obtain ⟨X, hX⟩ : ∃ X, X = (w.alloc (recCells ⟨k, b1, b2, b3, b4, b5, b6, b7, b8, b9⟩)).alloc (recCells ⟨0, 0, 0, 0, 0, 0, false, false, 0, 0⟩) := ⟨_, rfl⟩
  rw [← hX] at HB hc hz hl
  have HX := hide hX
  unfold recCells at HX hl
  obtain ⟨B3, hB3⟩ : ∃ B3, B3 = w.heap.size := ⟨_, rfl⟩
  have HB3 := hide hB3
  rw [← hB3] at hc hz hl
  obtain ⟨B4, hB4⟩ : ∃ B4, B4 = B3 + 1 := ⟨_, rfl⟩
  have HB4 := hide hB4
  rw [← hB4] at hz hl
  have HLO : Hid (w.heap.size ≤ B4) := by show w.heap.size ≤ B4; omega
  have hf : ∀ i, X.frozen? ⟨B4, i, none⟩ = false := fun i => by simp [World.frozen?, hl]
  clear hb1 hb2 hsz hX hl hB3 hB4
  have f0 := hf 0
  have f1 := hf 1
  have f2 := hf 2
  have f3 := hf 3
  have f4 := hf 4
  have f5 := hf 5
  have f6 := hf 6
  have f7 := hf 7
  have f8 := hf 8
  have f9 := hf 9
  clear hf
  obtain ⟨r0, r1, r2, r3, r4, r5, r6, r7, r8, r9, rl⟩ := hc
  obtain ⟨z0, z1, z2, z3, z4, z5, z6, z7, z8, z9, zl⟩ := hz
  simp only at r0 r1 r2 r3 r4 r5 r6 r7 r8 r9 z0 z1 z2 z3 z4 z5 z6 z7 z8 z9
  clear rl zl
  have hw : IntKind.i64.wrap lsn = lsn := by rw [IntKind.wrap_i64]; omega
  by_cases hk : k = 2
  · have HV := hide (undoR_yes (r := ⟨k, b1, b2, b3, b4, b5, b6, b7, b8, b9⟩) hk lsn last next)
    have hk' : (k != 2) = false := by simpa using hk
    have HD : Hid (decide (k = 2) = true) := decide_eq_true hk
    rw [HV.out]
    unfold R.val
    simp only
    rw [HD.out]
    subst hk
    go_enter Tryd.func42, Tryd.ntmps42
    go_upto_region 1 with fail
    simp only at HX
    rw [← HX.out, ← HB3.out, ← HB4.out]
    go_wp2_with fail
    exact bodyPost_ret (by simp [results, Tryd.results42, go_sem, *]) rfl ⟨rfl, set10 HB.out HLO.out _ _ _ _ _ _ _ _ _ _⟩
  · have HV := hide (undoR_no (r := ⟨k, b1, b2, b3, b4, b5, b6, b7, b8, b9⟩) hk lsn last next)
    have hk' : (k != 2) = true := by simpa using hk
    have HD : Hid (decide (k = 2) = false) := decide_eq_false hk
    rw [HV.out]
    unfold R.val
    simp only
    rw [HD.out]
    go_enter Tryd.func42, Tryd.ntmps42
    go_upto_region 1 with fail
    simp only at HX
    rw [← HX.out, ← HB3.out, ← HB4.out]
    go_wp2_with fail
    exact bodyPost_ret (by simp [results, Tryd.results42, go_sem, *]) rfl ⟨rfl, set10 HB.out HLO.out _ _ _ _ _ _ _ _ _ _⟩
end Go.Proofs.YtdijgpkcolpfoaaDoor

/- The chapter's examples on changes, as the statements ask them first: they hold, and nothing that was there is written. -/
namespace Go.Proofs.YtdijgpkcolpfoaaDoor
open Go.RowKit
set_option linter.unusedVariables false

set_option maxRecDepth 100000 in
set_option maxHeartbeats 4000000 in
theorem cfirst_any (w : World) : Calls Tryd.prog 25 #[] w fun e w' => e = .returned (.bool true) ∧ Below w.heap.size w w' := by
  have HU := hide (undo_any ⟨1, 1, 0, 0, 0, 0, false, false, 0, 0⟩ 5 5 0 w (by omega))
  rw [undoR_no (by decide)] at HU
  unfold R.val at HU
  simp only at HU
  go_enter Tryd.func25, Tryd.ntmps25
  go_wp2_with fail
  refine HU.out.mono ?_
  rintro e x1 ⟨rfl, hb⟩
  rw [show decide ((1 : Int) = 2) = false from rfl]
  have HB := hide hb
  clear hb HU
  obtain ⟨X, hX⟩ : ∃ X, X = (x1.alloc (.cells #[.int .i64 0, .int .i64 0, .int .i64 0, .int .i64 0, .int .i64 0, .int .i64 0, .bool false, .bool false, .int .i64 0, .int .i64 0] 60)).alloc (.cells #[.int .i64 2, .int .i64 1, .int .i64 1, .int .i64 0, .int .i64 0, .int .i64 3, .bool false, .bool true, .int .i64 0, .int .i64 9] 60) := ⟨_, rfl⟩
  have HBX : Hid (Below w.heap.size w X) := by
    show Below w.heap.size w X
    rw [hX]
    exact (HB.out.alloc HB.out.size _).alloc (by have := HB.out.size; simp; omega) _
  have hc := cells10_new (x1.alloc (.cells #[.int .i64 0, .int .i64 0, .int .i64 0, .int .i64 0, .int .i64 0, .int .i64 0, .bool false, .bool false, .int .i64 0, .int .i64 0] 60)) ⟨2, 1, 1, 0, 0, 3, false, true, 0, 9⟩
  rw [show (x1.alloc (.cells #[.int .i64 0, .int .i64 0, .int .i64 0, .int .i64 0, .int .i64 0, .int .i64 0, .bool false, .bool false, .int .i64 0, .int .i64 0] 60)).alloc (recCells ⟨2, 1, 1, 0, 0, 3, false, true, 0, 9⟩) = X from hX.symm, show (x1.alloc (.cells #[.int .i64 0, .int .i64 0, .int .i64 0, .int .i64 0, .int .i64 0, .int .i64 0, .bool false, .bool false, .int .i64 0, .int .i64 0] 60)).heap.size = x1.heap.size + 1 by simp] at hc
  have HC := hide hc
  have HX := hide hX
  clear hc hX
  go_upto_region 3 with fail
  rw [← HX.out]
  clear HX HB
  obtain ⟨r0, r1, r2, r3, r4, r5, r6, r7, r8, r9, rl⟩ := HC.out
  simp only at r0 r1 r2 r3 r4 r5 r6 r7 r8 r9
  clear rl
  have HR := hide (redo_yes 4 5 none 0 0 [] ⟨2, 1, 1, 0, 0, 3, false, true, 0, 9⟩ X (entRow_nil _ _) List.Pairwise.nil rfl (by decide) (by omega) (by decide))
  unfold R.val pageV at HR
  simp only at HR
  go_wp2_with fail
  refine HR.out.mono ?_
  rintro e x2 ⟨a, m, c, rfl, hm, ho, hb⟩
  have hm1 : m = 1 := hm.symm.trans (by decide)
  subst hm1
  have hbx := below_box x2 (pageBlock 5 a 1 c)
  have HB2 := hide (over (over HBX.out hb HBX.out.size) hbx (over HBX.out hb HBX.out.size).size)
  unfold pageBlock at HB2
  clear hm ho hb hbx HR r0 r1 r2 r3 r4 r5 r6 r7 r8 r9
  go_wp2_with fail
  go_ret
  exact ⟨rfl, HB2.out⟩
end Go.Proofs.YtdijgpkcolpfoaaDoor
