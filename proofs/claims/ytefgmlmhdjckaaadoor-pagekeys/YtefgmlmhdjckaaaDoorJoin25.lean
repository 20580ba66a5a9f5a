/- Lemmas and contracts that the law stands on, joined: PgPut, PgRef, PgRef2, PgRef3, PgRem, PgRef4. -/
import Derived.Test.YtefgmlmhdjckaaaDoorJoin23
import Derived.Test.YtefgmlmhdjckaaaDoorJoin24
/- What page.Put and page.Remove answer, of keys that rise. -/
namespace Go.Proofs.YtefgmlmhdjckaaaDoor
open Go.RowKit
set_option linter.unusedVariables false

theorem boxes2 (w : World) (lsn : Int) (ao : Option Addr) (n c : Nat) {es : List (Int × Int)} (h : EntRow w ao es) : ∃ X, X = (w.alloc (pageBlock lsn ao n c)).alloc (pageBlock 0 none 0 0) ∧ PBlk X w.heap.size lsn ao n c ∧ PBlk X (w.heap.size + 1) 0 none 0 0 ∧ EntRow X ao es ∧ Below w.heap.size w X := by
  have hb1 := below_box w (pageBlock lsn ao n c)
  have hb2 := below_box (w.alloc (pageBlock lsn ao n c)) (pageBlock 0 none 0 0)
  have hsz : (w.alloc (pageBlock lsn ao n c)).heap.size = w.heap.size + 1 := by simp
  have hb := over hb1 hb2 hb1.size
  have hz := pblk_new (w.alloc (pageBlock lsn ao n c)) 0 none 0 0
  rw [hsz] at hz
  exact ⟨_, rfl, (pblk_new w lsn ao n c).step hb2, hz, h.below hb (Nat.le_refl _), hb⟩
theorem OwnE.shape {w : World} {B : Nat} {ao : Option Addr} {cap : Nat} {es : List (Int × Int)} (h : OwnE w B ao cap es) (hp : 0 < es.length) : ∃ g, ao = some ⟨g, 0, none⟩ ∧ B ≤ g ∧ g < w.heap.size := by
  rcases h.1.2 with ⟨h1, h2⟩ | ⟨g, c, cur, h1, h2, h3, _⟩
  · omega
  · simp only [Value.slice.injEq] at h1
    exact ⟨g, h1.1, h2, lt_of_block h3⟩
theorem OwnE.ne_page {w : World} {B P : Nat} {g : Nat} {cap : Nat} {es : List (Int × Int)} {z : Array Value} (h : OwnE w B (some ⟨g, 0, none⟩) cap es) (hz : w.heap[P]? = some (.cells z 24 (0, 0))) : g ≠ P := by
  rcases h.1.2 with ⟨h1, h2⟩ | ⟨g', c, cur, h1, h2, h3, _⟩
  · simp at h1
  · simp only [Value.slice.injEq, Option.some.injEq, Addr.mk.injEq] at h1
    obtain ⟨⟨rfl, _⟩, _⟩ := h1
    rintro rfl
    rw [hz] at h3
    simp at h3
theorem entCells_set (es : List (Int × Int)) (k : Nat) (x y v : Int) (h : es[k]? = some (x, y)) : entCells (es.set k (x, v)) = (entCells es).set (k * 2 + 1) (.int .i64 v) := by
  induction es generalizing k with
  | nil => simp at h
  | cons e r ih =>
    cases k with
    | zero =>
      simp at h
      subst h
      rfl
    | succ k =>
      have := ih k (by simpa using h)
      rw [List.set_cons_succ]
      show Value.int .i64 e.1 :: Value.int .i64 e.2 :: entCells (r.set k (x, v)) = (Value.int .i64 e.1 :: Value.int .i64 e.2 :: entCells r).set ((k + 1) * 2 + 1) (.int .i64 v)
      rw [this, show (k + 1) * 2 + 1 = (k * 2 + 1) + 1 + 1 by omega, List.set_cons_succ, List.set_cons_succ]
theorem OwnE.setVal {w : World} {B g : Nat} {cap : Nat} {es : List (Int × Int)} (h : OwnE w B (some ⟨g, 0, none⟩) cap es) {k : Nat} {x y : Int} (he : es[k]? = some (x, y)) (v : Int) : OwnE (w.setCell ⟨g, k * 2 + 1, none⟩ (.int .i64 v)) B (some ⟨g, 0, none⟩) cap (es.set k (x, v)) := by
  obtain ⟨h1, h2⟩ := h
  have e := (h1.stored (k * 2 + 1) (.int .i64 v)).1
  refine ⟨?_, by simpa using h2⟩
  rw [entCells_set es k x y v he, List.length_set]
  exact e
theorem OwnE.cellV {w : World} {B g : Nat} {cap : Nat} {es : List (Int × Int)} (h : OwnE w B (some ⟨g, 0, none⟩) cap es) {k : Nat} {x y : Int} (he : es[k]? = some (x, y)) : w.cell? ⟨g, k * 2 + 1, none⟩ = some (.int .i64 y) ∧ w.frozen? ⟨g, k * 2 + 1, none⟩ = false := by
  have hk := (List.getElem?_eq_some_iff.1 he).1
  refine ⟨?_, h.1.frozenAt _⟩
  rw [h.1.cellAt (k * 2 + 1) (by omega)]
  exact (entCells_at es k (x, y) he).2
theorem OwnE.setFar {w : World} {B g : Nat} {ao : Option Addr} {cap : Nat} {es : List (Int × Int)} (h : OwnE w B ao cap es) (hg : g < B) (i : Nat) (v : Value) : OwnE (w.setCell ⟨g, i, none⟩ v) B ao cap es := h.of_blocks fun k hk _ => Below.heap_setCell _ _ _ _ (by show k ≠ g; omega)
theorem entCells_setK (es : List (Int × Int)) (k : Nat) (x y v : Int) (h : es[k]? = some (x, y)) : entCells (es.set k (v, y)) = (entCells es).set (k * 2) (.int .i64 v) := by
  induction es generalizing k with
  | nil => simp at h
  | cons e r ih =>
    cases k with
    | zero =>
      simp at h
      subst h
      rfl
    | succ k =>
      have := ih k (by simpa using h)
      rw [List.set_cons_succ]
      show Value.int .i64 e.1 :: Value.int .i64 e.2 :: entCells (r.set k (v, y)) = (Value.int .i64 e.1 :: Value.int .i64 e.2 :: entCells r).set ((k + 1) * 2) (.int .i64 v)
      rw [this, show (k + 1) * 2 = k * 2 + 1 + 1 by omega, List.set_cons_succ, List.set_cons_succ]
theorem OwnE.setKey {w : World} {B g : Nat} {cap : Nat} {es : List (Int × Int)} (h : OwnE w B (some ⟨g, 0, none⟩) cap es) {k : Nat} {x y : Int} (he : es[k]? = some (x, y)) (v : Int) : OwnE (w.setCell ⟨g, k * 2, none⟩ (.int .i64 v)) B (some ⟨g, 0, none⟩) cap (es.set k (v, y)) := by
  obtain ⟨h1, h2⟩ := h
  have e := (h1.stored (k * 2) (.int .i64 v)).1
  refine ⟨?_, by simpa using h2⟩
  rw [entCells_setK es k x y v he, List.length_set]
  exact e
theorem OwnE.cellK {w : World} {B g : Nat} {cap : Nat} {es : List (Int × Int)} (h : OwnE w B (some ⟨g, 0, none⟩) cap es) {k : Nat} {x y : Int} (he : es[k]? = some (x, y)) : w.cell? ⟨g, k * 2, none⟩ = some (.int .i64 x) ∧ w.frozen? ⟨g, k * 2, none⟩ = false := by
  have hk := (List.getElem?_eq_some_iff.1 he).1
  refine ⟨?_, h.1.frozenAt _⟩
  rw [h.1.cellAt (k * 2) (by omega)]
  exact (entCells_at es k (x, y) he).1
set_option maxRecDepth 100000 in
set_option maxHeartbeats 2000000 in
theorem put_yes (lsn : Int) (ao : Option Addr) (n c : Nat) (es : List (Int × Int)) (key v : Int) (w : World) (h : EntRow w ao es) (hu : Up es) (hn : es.length = n) (hh : hasE es key = true) :
    Calls Tryd.prog 25 #[pageV lsn ao n c, .int .i64 key, .int .i64 v] w fun r w' => ∃ ao' c', r = .returned (.tuple #[pageV lsn ao' n c', .bool true]) ∧ OwnE w' w.heap.size ao' c' (insE key v es) ∧ Below w.heap.size w w' := by
  have hs := h.1
  rw [hn] at hs
  obtain ⟨X, hX, hp, hz, hrow, hb⟩ := boxes2 w lsn ao n c h
  obtain ⟨k, e, he, hk, hi⟩ := idx_key hh
  obtain ⟨x, y⟩ := e
  simp only at hk
  subst hk
  have hlt : k < n := by rw [← hn]; exact (List.getElem?_eq_some_iff.1 he).1
  have hki : (k : Int) < (n : Int) := by omega
  have hk0 : ¬ ((k : Int) < 0) := by omega
  have hk1 : (0 : Int) ≤ (k : Int) := by omega
  have HS := hide (ins_set (v := v) hu he rfl)
  have HE := hide he
  have HN := hide hn
  have HX := hide hX
  obtain ⟨B3, hB3⟩ : ∃ B3, B3 = w.heap.size := ⟨_, rfl⟩
  have HB3 := hide hB3
  rw [← hB3] at hp hz
  obtain ⟨B6, hB6⟩ : ∃ B6, B6 = B3 + 1 := ⟨_, rfl⟩
  have HB6 := hide hB6
  rw [← hB6] at hz
  have HLO : Hid (w.heap.size ≤ B6) := by show w.heap.size ≤ B6; omega
  have HLX := hide hb.size
  have HI := hide hi
  have HP := hide hp
  have HZ := hide hz
  have HR := hide hrow
  have HB := hide hb
  unfold pageBlock at HX
  unfold pageV
  clear hX hp hz hrow hb he hi hn hh hB3 hB6 h hu
  go_enter Tryd.func25, Tryd.ntmps25
  go_upto_region 1 with fail
  rw [← HX.out, ← HB3.out, ← HB6.out]
  have k1 := HP.out.c1
  go_wp2_with fail
  refine (clone_any ao n c es _ HR.out HN.out).mono ?_
  rintro e x1 ⟨a1, c1, rfl, ho, hb⟩
  have HO := hide ho
  replace HP := hide (HP.out.step hb)
  replace HZ := hide (HZ.out.step hb)
  replace HR := hide (HR.out.step hb)
  replace HB := hide (over HB.out hb HB.out.size)
  clear ho hb k1
  have k0 := HP.out.c0
  have k1 := HP.out.c1
  go_wp2_with fail
  refine (find_any lsn ao n c es x k _ HR.out HN.out HI.out).mono ?_
  rintro e x2 ⟨rfl, hb⟩
  replace HO := hide (HO.out.step hb)
  replace HP := hide (HP.out.step hb)
  replace HZ := hide (HZ.out.step hb)
  replace HB := hide (over HB.out hb HB.out.size)
  obtain ⟨g, rfl, hg1, hg2⟩ := HO.out.shape (by rw [HN.out]; omega)
  obtain ⟨v1, v2⟩ := HO.out.cellV HE.out
  have HGP := hide (HO.out.ne_page HP.out)
  have HGZ := hide (HO.out.ne_page HZ.out)
  have HGW : Hid (w.heap.size ≤ g) := by show w.heap.size ≤ g; have := HLX.out; omega
  clear hb k0 k1 hg1 hg2
  go_upto_region 5 with fail
  clear v1 v2
  replace HO := hide ((HO.out.setVal HE.out v).mono HLX.out)
  rw [← HS.out] at HO
  replace HP := hide (HP.out.far HGP.out (k * 2 + 1) (.int .i64 v))
  replace HZ := hide (HZ.out.far HGZ.out (k * 2 + 1) (.int .i64 v))
  replace HB := hide (HB.out.setCell (p := ⟨g, k * 2 + 1, none⟩) HGW.out (.int .i64 v))
  obtain ⟨Y, hY⟩ : ∃ Y, Y = x2.setCell ⟨g, k * 2 + 1, none⟩ (.int .i64 v) := ⟨_, rfl⟩
  rw [← hY] at HO HP HZ HB ⊢
  clear hY
  have k0 := HP.out.c0
  have z0 := HZ.out.c0
  have z1 := HZ.out.c1
  have g0 := HZ.out.fz 0
  have g1 := HZ.out.fz 1
  go_wp2_with fail
  exact bodyPost_ret (v := .tuple #[.agg #[.int .i64 lsn, .slice (some ⟨g, 0, none⟩) n c1], .bool true]) (by simp [results, Tryd.results25, go_sem, z0, z1]) rfl ⟨_, c1, rfl, (HO.out.setPage HZ.out 0 _).setPage (set_block HZ.out 0 _) 1 _, (HB.out.setCell (p := ⟨B6, 0, none⟩) HLO.out _).setCell (p := ⟨B6, 1, none⟩) HLO.out _⟩
set_option maxRecDepth 100000 in
set_option maxHeartbeats 2000000 in
theorem put_new (lsn : Int) (ao : Option Addr) (n c : Nat) (es : List (Int × Int)) (key v : Int) (w : World) (h : EntRow w ao es) (hu : Up es) (hn : es.length = n) (hh : hasE es key = false) (hn20 : n < 20) :
    Calls Tryd.prog 25 #[pageV lsn ao n c, .int .i64 key, .int .i64 v] w fun r w' => ∃ ao' c', r = .returned (.tuple #[pageV lsn ao' (n + 1) c', .bool true]) ∧ OwnE w' w.heap.size ao' c' (insE key v es) ∧ Below w.heap.size w w' := by
  obtain ⟨X, hX, hp, hz, hrow, hb⟩ := boxes2 w lsn ao n c h
  obtain ⟨q, hq, hpl, hins⟩ := idx_place hu hh
  have hni : ((20 : Int) ≤ (n : Int)) = False := by simp; omega
  have hni' : decide ((20 : Int) ≤ (n : Int)) = false := by simp; omega
  have HS := hide (hins v)
  have HQ := hide hq
  have HPL := hide hpl
  have HN := hide hn
  have HX := hide hX
  obtain ⟨B3, hB3⟩ : ∃ B3, B3 = w.heap.size := ⟨_, rfl⟩
  have HB3 := hide hB3
  rw [← hB3] at hp hz
  obtain ⟨B6, hB6⟩ : ∃ B6, B6 = B3 + 1 := ⟨_, rfl⟩
  have HB6 := hide hB6
  rw [← hB6] at hz
  have HLO : Hid (w.heap.size ≤ B6) := by show w.heap.size ≤ B6; omega
  have HLX := hide hb.size
  have HL3 : Hid (B3 < X.heap.size) := hp.lt
  have HL6 : Hid (B6 < X.heap.size) := hz.lt
  have HXX : Hid (X.heap.size ≤ X.heap.size) := Nat.le_refl _
  have HI := hide (idx_no hh)
  have HP := hide hp
  have HZ := hide hz
  have HR := hide hrow
  have HB := hide hb
  unfold pageBlock at HX
  unfold pageV
  clear hX hp hz hrow hb hq hpl hins hn hh hB3 hB6 h hu
  go_enter Tryd.func25, Tryd.ntmps25
  go_upto_region 1 with fail
  rw [← HX.out, ← HB3.out, ← HB6.out]
  have k1 := HP.out.c1
  go_wp2_with fail
  refine (clone_any ao n c es _ HR.out HN.out).mono ?_
  rintro e x1 ⟨a1, c1, rfl, ho, hb⟩
  have HO := hide ho
  replace HXX := hide hb.size
  replace HP := hide (HP.out.step hb)
  replace HZ := hide (HZ.out.step hb)
  replace HR := hide (HR.out.step hb)
  replace HB := hide (over HB.out hb HB.out.size)
  clear ho hb k1
  have k0 := HP.out.c0
  have k1 := HP.out.c1
  go_wp2_with fail
  refine (find_any lsn ao n c es key (-1) _ HR.out HN.out HI.out).mono ?_
  rintro e x2 ⟨rfl, hb⟩
  replace HXX := hide (Nat.le_trans HXX.out hb.size)
  replace HO := hide (HO.out.step hb)
  replace HP := hide (HP.out.step hb)
  replace HZ := hide (HZ.out.step hb)
  replace HR := hide (HR.out.step hb)
  replace HB := hide (over HB.out hb HB.out.size)
  clear hb k0 k1
  have k0 := HP.out.c0
  have k1 := HP.out.c1
  go_wp2_with fail
  refine (place_any lsn ao n c es key q _ HR.out HN.out (by rw [← HN.out]; exact HPL.out)).mono ?_
  rintro e x3 ⟨rfl, hb⟩
  replace HXX := hide (Nat.le_trans HXX.out hb.size)
  replace HO := hide (HO.out.step hb)
  replace HP := hide (HP.out.step hb)
  replace HZ := hide (HZ.out.step hb)
  replace HB := hide (over HB.out hb HB.out.size)
  clear hb k0 k1
  go_wp2_with (first | (with_reducible refine buildE (key, v) ?_ ?_; rfl))
  refine (insert_any X.heap.size a1 n c1 es q (key, v) x3 HO.out HN.out (by rw [← HN.out]; exact HQ.out) (by omega) HXX.out).mono ?_
  rintro e x4 ⟨a4, c4, rfl, ho, hb⟩
  rw [← HS.out] at ho
  replace HO := hide (ho.mono HLX.out)
  replace HP := hide (HP.out.below hb HL3.out)
  replace HZ := hide (HZ.out.below hb HL6.out)
  replace HB := hide (HB.out.trans (hb.mono HLX.out))
  clear ho hb
  have k0 := HP.out.c0
  have z0 := HZ.out.c0
  have z1 := HZ.out.c1
  have g0 := HZ.out.fz 0
  have g1 := HZ.out.fz 1
  go_wp2_with fail
  exact bodyPost_ret (v := .tuple #[.agg #[.int .i64 lsn, .slice a4 (n + 1) c4], .bool true]) (by simp [results, Tryd.results25, go_sem, z0, z1]) rfl ⟨a4, c4, rfl, (HO.out.setPage HZ.out 0 _).setPage (set_block HZ.out 0 _) 1 _, (HB.out.setCell (p := ⟨B6, 0, none⟩) HLO.out _).setCell (p := ⟨B6, 1, none⟩) HLO.out _⟩
set_option maxRecDepth 100000 in
set_option maxHeartbeats 2000000 in
theorem put_full (lsn : Int) (ao : Option Addr) (n c : Nat) (es : List (Int × Int)) (key v : Int) (w : World) (h : EntRow w ao es) (hn : es.length = n) (hh : hasE es key = false) (hn20 : 20 ≤ n) :
    Calls Tryd.prog 25 #[pageV lsn ao n c, .int .i64 key, .int .i64 v] w fun r w' => r = .returned (.tuple #[pageV 0 none 0 0, .bool false]) ∧ Below w.heap.size w w' := by
  obtain ⟨X, hX, hp, hz, hrow, hb⟩ := boxes2 w lsn ao n c h
  have hni : (20 : Int) ≤ (n : Int) := by omega
  have HN := hide hn
  have HX := hide hX
  obtain ⟨B3, hB3⟩ : ∃ B3, B3 = w.heap.size := ⟨_, rfl⟩
  have HB3 := hide hB3
  rw [← hB3] at hp hz
  obtain ⟨B6, hB6⟩ : ∃ B6, B6 = B3 + 1 := ⟨_, rfl⟩
  have HB6 := hide hB6
  rw [← hB6] at hz
  have HLO : Hid (w.heap.size ≤ B6) := by show w.heap.size ≤ B6; omega
  have HI := hide (idx_no hh)
  have HP := hide hp
  have HZ := hide hz
  have HR := hide hrow
  have HB := hide hb
  unfold pageBlock at HX
  unfold pageV
  clear hX hp hz hrow hb hn hh hB3 hB6 h
  go_enter Tryd.func25, Tryd.ntmps25
  go_upto_region 1 with fail
  rw [← HX.out, ← HB3.out, ← HB6.out]
  have k1 := HP.out.c1
  go_wp2_with fail
  refine (clone_any ao n c es _ HR.out HN.out).mono ?_
  rintro e x1 ⟨a1, c1, rfl, ho, hb⟩
  replace HP := hide (HP.out.step hb)
  replace HZ := hide (HZ.out.step hb)
  replace HR := hide (HR.out.step hb)
  replace HB := hide (over HB.out hb HB.out.size)
  clear ho hb k1
  have k0 := HP.out.c0
  have k1 := HP.out.c1
  go_wp2_with fail
  refine (find_any lsn ao n c es key (-1) _ HR.out HN.out HI.out).mono ?_
  rintro e x2 ⟨rfl, hb⟩
  replace HZ := hide (HZ.out.step hb)
  replace HB := hide (over HB.out hb HB.out.size)
  clear hb k0 k1
  have z0 := HZ.out.c0
  have z1 := HZ.out.c1
  have g0 := HZ.out.fz 0
  have g1 := HZ.out.fz 1
  go_wp2_with fail
  exact bodyPost_ret (v := .tuple #[.agg #[.int .i64 0, .slice none 0 0], .bool false]) (by simp [results, Tryd.results25, go_sem, z0, z1]) rfl ⟨rfl, (HB.out.setCell (p := ⟨B6, 0, none⟩) HLO.out _).setCell (p := ⟨B6, 1, none⟩) HLO.out _⟩
end Go.Proofs.YtefgmlmhdjckaaaDoor

/- What the document's own Put and Remove answer, of keys that rise. -/
namespace Go.Proofs.YtefgmlmhdjckaaaDoor
open Go.RowKit
set_option linter.unusedVariables false

/-- One entry is put behind the others of a page that is being filled: the world behind the store, and what stays. -/
theorem PageAt.more {w0 w : World} {P : Nat} {lsn : Int} {ao : Option Addr} {n c : Nat} {es : List (Int × Int)} (h : PageAt w0 w P lsn ao n c es) (hn : n ≤ 900) (e : Int × Int) :
    ∃ ao' c' w1, (Builtin.append_ #[22, 22] 22 #[.slice ao n c, .slice (some ⟨w.heap.size, 0, none⟩) 1 1]).run Tryd.prog (w.alloc (entBlock e)) = .ok (.slice ao' (n + 1) c') w1 ∧ w1.cell? ⟨P, 1, none⟩ = some (.slice ao n c) ∧ w1.frozen? ⟨P, 1, none⟩ = false ∧ PageAt w0 (w1.setCell ⟨P, 1, none⟩ (.slice ao' (n + 1) c')) P lsn ao' (n + 1) c' (es ++ [e]) ∧ ∀ Q l2 bo m d, PBlk w Q l2 bo m d → Q ≠ P → PBlk (w1.setCell ⟨P, 1, none⟩ (.slice ao' (n + 1) c')) Q l2 bo m d := by
  obtain ⟨ao', c', w1, h1, h2, h3, h4, h5⟩ := h.append hn e 22
  exact ⟨ao', c', w1, h1, h2, h3, h4, fun Q l2 bo m d hq hne => (h5 Q _ hq hne).trans hq⟩
theorem PageAt.drew {w0 w : World} {P : Nat} {lsn : Int} {ao : Option Addr} {n c : Nat} {es : List (Int × Int)} (h : PageAt w0 w P lsn ao n c es) : PageAt w0 w.drew P lsn ao n c es := h.step (below_drew (Below.refl _ _))
theorem PBlk.drew {w : World} {P : Nat} {lsn : Int} {ao : Option Addr} {n c : Nat} (h : PBlk w P lsn ao n c) : PBlk w.drew P lsn ao n c := h
set_option maxRecDepth 100000 in
set_option maxHeartbeats 4000000 in
theorem rrem_any (lsn : Int) (ao : Option Addr) (n c : Nat) (es : List (Int × Int)) (key : Int) (w : World) (h : EntRow w ao es) (hn : es.length = n) (hn9 : n ≤ 100) :
    Calls Tryd.prog 28 #[pageV lsn ao n c, .int .i64 key] w fun r w' => ∃ ao' m c', r = .returned (.tuple #[pageV lsn ao' m c', .bool (hasE es key)]) ∧ (remE key es).length = m ∧ OwnE w' w.heap.size ao' c' (remE key es) ∧ Below w.heap.size w w' := by
  obtain ⟨X, hX, hp, hz, hrow, hb⟩ := boxes2 w lsn ao n c h
  have HN := hide hn
  have HX := hide hX
  obtain ⟨B3, hB3⟩ : ∃ B3, B3 = w.heap.size := ⟨_, rfl⟩
  have HB3 := hide hB3
  rw [← hB3] at hp hz
  obtain ⟨B6, hB6⟩ : ∃ B6, B6 = B3 + 1 := ⟨_, rfl⟩
  have HB6 := hide hB6
  rw [← hB6] at hz
  have H36 : Hid (¬ B3 = B6) := by show ¬ B3 = B6; omega
  have HLO : Hid (w.heap.size ≤ B6) := by show w.heap.size ≤ B6; omega
  have HP := hide hp
  have HZ := hide hz
  have HR := hide hrow
  have HRW := hide h
  have HB := hide hb
  unfold pageBlock at HX
  unfold pageV
  clear hX hp hz hrow hb hn hB3 hB6 h
  go_enter Tryd.func28, Tryd.ntmps28
  go_upto_region 1 with fail
  rw [← HX.out, ← HB3.out, ← HB6.out]
  clear HX HB3 HB6
  have k0 := HP.out.c0
  have k1 := HP.out.c1
  go_wp2_with fail
  refine (rfind_any lsn ao n c es key _ HR.out HN.out).mono ?_
  rintro e x1 ⟨rfl, hb⟩
  replace HP := hide (HP.out.step hb)
  replace HZ := hide (HZ.out.step hb)
  replace HR := hide (HR.out.step hb)
  replace HB := hide (over HB.out hb HB.out.size)
  clear hb k0 k1
  obtain ⟨V0, hV0⟩ : ∃ V0, V0 = (valE es key).getD 0 := ⟨_, rfl⟩
  rw [← hV0]
  clear hV0
  obtain ⟨HH, hHH⟩ : ∃ HH, HH = hasE es key := ⟨_, rfl⟩
  rw [← hHH]
  have HHH := hide hHH
  clear hHH
  have k0 := HP.out.c0
  have k1 := HP.out.c1
  have hbx := below_box x1 (pageBlock lsn none 0 0)
  have HPA : Hid (PageAt w (x1.alloc (pageBlock lsn none 0 0)) x1.heap.size lsn none 0 0 []) := ⟨heap_alloc_new _ _, ownE_nil _ _, rfl, HB.out.size, over HB.out hbx HB.out.size⟩
  have HP1 := hide (HP.out.step hbx)
  have HZ1 := hide (HZ.out.step hbx)
  have HR1 := hide (HR.out.step hbx)
  have HPN : Hid (x1.heap.size ≠ B3 ∧ x1.heap.size ≠ B6) := ⟨by have := HP.out.lt; omega, by have := HZ.out.lt; omega⟩
  unfold pageBlock at HPA HP1 HZ1 HR1
  clear hbx
  go_upto_region 3 with fail
  obtain ⟨Y, hY⟩ : ∃ Y, Y = x1.alloc (.cells #[.int .i64 lsn, .slice none 0 0] 24) := ⟨_, rfl⟩
  rw [← hY] at HPA HP1 HZ1 HR1 ⊢
  obtain ⟨P, hP⟩ : ∃ P, P = x1.heap.size := ⟨_, rfl⟩
  rw [← hP] at HPA HPN ⊢
  clear hY hP k0 k1 HP HZ HR HB
  go_wp2_with fail
  go_loopw [9] (fun i wr => ∃ (k m : Nat) (a1 : Option Addr) (c1 : Nat), k ≤ n ∧ i = .int .i64 k ∧ m ≤ k ∧ PageAt w wr P lsn a1 m c1 (remE key (es.take k)) ∧ PBlk wr B3 lsn ao n c ∧ PBlk wr B6 0 none 0 0) (fun i _ => n - (intOf i).toNat)
  case atStart => exact ⟨0, 0, none, 0, by omega, rfl, by omega, HPA.out, HP1.out, HZ1.out⟩
  case round =>
    clear HPA HP1 HZ1 HR1
    obtain ⟨k, m, a1, c1, hk, rfl, hmk, hpa, hp, hz⟩ := hrel
    have HPA := hide hpa
    have HP := hide hp
    have HZ := hide hz
    have HR := hide (HRW.out.below hpa.bel (Nat.le_refl _))
    clear hpa hp hz
    have k1 := HP.out.c1
    by_cases hlt : k < n
    · have hki : (k : Int) < (n : Int) := by omega
      obtain ⟨e, he⟩ : ∃ e, es[k]? = some e := ⟨es[k]'(by rw [HN.out]; exact hlt), List.getElem?_eq_getElem _⟩
      obtain ⟨b, off, rfl, hlb, hc⟩ := HR.out.2 (by rw [HN.out]; omega)
      obtain ⟨d1, d2⟩ := hc k e he
      by_cases hx : e.1 = key
      · have HT := hide (rem_skip he hx)
        obtain ⟨x, y⟩ := e
        simp only at d1 d2 hx
        clear hc he hlb
        subst hx
        go_wp2_with fail
        go_roundw
        case rel => exact ⟨k + 1, m, a1, c1, by omega, by go_num, by omega, by rw [HT.out]; exact HPA.out, HP.out, HZ.out⟩
        case measure => simp [intOf]; omega
      · have HT := hide (rem_keep he hx)
        obtain ⟨a2, c2, w3, hrun, hc3, hf3, hpa, hoth⟩ := HPA.out.drew.more (by omega) e
        rw [← HT.out] at hpa
        obtain ⟨x, y⟩ := e
        have HRUN : Hid ((Builtin.append_ #[22, 22] 22 #[.slice a1 m c1, .slice (some ⟨wr.heap.size, 0, none⟩) 1 1]).run Tryd.prog (wr.alloc (.cells #[.int .i64 x, .int .i64 y] 60)).drew = .ok (.slice a2 (m + 1) c2) w3) := hrun
        have HPA2 := hide hpa
        have HP2 := hide (hoth _ _ _ _ _ HP.out.drew HPN.out.1.symm)
        have HZ2 := hide (hoth _ _ _ _ _ HZ.out.drew HPN.out.2.symm)
        simp only at d1 d2 hx
        have hx' : (x != key) = true := by simpa using hx
        obtain ⟨c0', c1', f1', cl'⟩ := HPA.out.cell
        clear hc he hlb hrun hpa hoth
        go_wp2_with fail
        apply dup
        case k =>
          intro TAIL
          go_region_law (first | (refine step_append_e (by rfl) (.tmp 35) (.tmp 41) 22 (by rfl) _ _ (by rfl) (by rfl) HRUN.out ?_))
          all_goals exact TAIL.out
        case h =>
          clear hc3 hf3 c0' c1' f1' cl' d1 d2 k1
          go_wp2_with fail
          go_roundw
          case rel => exact ⟨k + 1, m + 1, a2, c2, by omega, by go_num, by omega, HPA2.out, HP2.out, HZ2.out⟩
          case measure => simp [intOf]; omega
    · have hki : decide ((k : Int) < (n : Int)) = false := by simp; omega
      have hkn : k = n := by omega
      subst hkn
      obtain ⟨c0, c1', f1, cl⟩ := HPA.out.cell
      have z0 := HZ.out.c0
      have z1 := HZ.out.c1
      have g0 := HZ.out.fz 0
      have g1 := HZ.out.fz 1
      have HTK : Hid (es.take k = es) := List.take_of_length_le (by rw [HN.out]; exact Nat.le_refl _)
      have HM2 : Hid ((remE key es).length = m) := by show _ = _; rw [← HTK.out]; exact HPA.out.num
      have HO2 : Hid (OwnE wr w.heap.size a1 c1 (remE key es)) := by have := HPA.out.own; rw [HTK.out] at this; exact this
      have HB2 := hide HPA.out.bel
      go_wp2_with fail
      exact bodyPost_ret (v := .tuple #[.agg #[.int .i64 lsn, .slice a1 m c1], .bool HH]) (by simp [results, Tryd.results28, go_sem, z0, z1]) rfl ⟨a1, m, c1, by rw [← HHH.out], HM2.out, (HO2.out.setPage HZ.out 0 _).setPage (set_block HZ.out 0 _) 1 _, (HB2.out.setCell (p := ⟨B6, 0, none⟩) HLO.out _).setCell (p := ⟨B6, 1, none⟩) HLO.out _⟩
end Go.Proofs.YtefgmlmhdjckaaaDoor

/- What the document's own Put answers, of keys that rise. -/
namespace Go.Proofs.YtefgmlmhdjckaaaDoor
open Go.RowKit
set_option linter.unusedVariables false

set_option maxRecDepth 100000 in
set_option maxHeartbeats 2000000 in
theorem rput_full (lsn : Int) (ao : Option Addr) (n c : Nat) (es : List (Int × Int)) (key v : Int) (w : World) (h : EntRow w ao es) (hn : es.length = n) (hh : hasE es key = false) (hn20 : 20 ≤ n) :
    Calls Tryd.prog 26 #[pageV lsn ao n c, .int .i64 key, .int .i64 v] w fun r w' => r = .returned (.tuple #[pageV 0 none 0 0, .bool false]) ∧ Below w.heap.size w w' := by
  obtain ⟨X, hX, hp, hz, hrow, hb⟩ := boxes2 w lsn ao n c h
  have hni : (20 : Int) ≤ (n : Int) := by omega
  have HX := hide hX
  obtain ⟨B3, hB3⟩ : ∃ B3, B3 = w.heap.size := ⟨_, rfl⟩
  have HB3 := hide hB3
  rw [← hB3] at hp hz
  obtain ⟨B6, hB6⟩ : ∃ B6, B6 = B3 + 1 := ⟨_, rfl⟩
  have HB6 := hide hB6
  rw [← hB6] at hz
  have HLO : Hid (w.heap.size ≤ B6) := by show w.heap.size ≤ B6; omega
  have HF := hide (rfind_any lsn ao n c es key X hrow hn)
  rw [hh] at HF
  have HP := hide hp
  have HZ := hide hz
  have HB := hide hb
  unfold pageBlock at HX
  unfold pageV
  clear hX hp hz hrow hb hn hh hB3 hB6 h
  go_enter Tryd.func26, Tryd.ntmps26
  go_upto_region 1 with fail
  rw [← HX.out, ← HB3.out, ← HB6.out]
  have k0 := HP.out.c0
  have k1 := HP.out.c1
  go_wp2_with fail
  refine HF.out.mono ?_
  rintro e x1 ⟨rfl, hb⟩
  replace HP := hide (HP.out.step hb)
  replace HZ := hide (HZ.out.step hb)
  replace HB := hide (over HB.out hb HB.out.size)
  clear hb k0 k1
  have k1 := HP.out.c1
  have z0 := HZ.out.c0
  have z1 := HZ.out.c1
  have g0 := HZ.out.fz 0
  have g1 := HZ.out.fz 1
  go_wp2_with fail
  exact bodyPost_ret (v := .tuple #[.agg #[.int .i64 0, .slice none 0 0], .bool false]) (by simp [results, Tryd.results26, go_sem, z0, z1]) rfl ⟨rfl, (HB.out.setCell (p := ⟨B6, 0, none⟩) HLO.out _).setCell (p := ⟨B6, 1, none⟩) HLO.out _⟩
set_option maxRecDepth 100000 in
set_option maxHeartbeats 8000000 in
theorem rput_has (lsn : Int) (ao : Option Addr) (n c : Nat) (es : List (Int × Int)) (key v : Int) (w : World) (h : EntRow w ao es) (hu : Up es) (hn : es.length = n) (hn9 : n ≤ 100) (hroom : hasE es key = true) :
    Calls Tryd.prog 26 #[pageV lsn ao n c, .int .i64 key, .int .i64 v] w fun r w' => ∃ ao' m c', r = .returned (.tuple #[pageV lsn ao' m c', .bool true]) ∧ (insE key v es).length = m ∧ OwnE w' w.heap.size ao' c' (insE key v es) ∧ Below w.heap.size w w' := by
  obtain ⟨X, hX, hp, hz, hrow, hb⟩ := boxes2 w lsn ao n c h
  have HN := hide hn
  have HU := hide hu
  have HX := hide hX
  obtain ⟨B3, hB3⟩ : ∃ B3, B3 = w.heap.size := ⟨_, rfl⟩
  have HB3 := hide hB3
  rw [← hB3] at hp hz
  obtain ⟨B6, hB6⟩ : ∃ B6, B6 = B3 + 1 := ⟨_, rfl⟩
  have HB6 := hide hB6
  rw [← hB6] at hz
  have H36 : Hid (¬ B3 = B6) := by show ¬ B3 = B6; omega
  have HLO : Hid (w.heap.size ≤ B6) := by show w.heap.size ≤ B6; omega
  have HP := hide hp
  have HZ := hide hz
  have HR := hide hrow
  have HRW := hide h
  have HB := hide hb
  unfold pageBlock at HX
  unfold pageV
  clear hX hp hz hrow hb hn hB3 hB6 h hu
  go_enter Tryd.func26, Tryd.ntmps26
  go_upto_region 1 with fail
  rw [← HX.out, ← HB3.out, ← HB6.out]
  clear HX HB3 HB6
  have k0 := HP.out.c0
  have k1 := HP.out.c1
  go_wp2_with fail
  refine (rfind_any lsn ao n c es key _ HR.out HN.out).mono ?_
  rintro e x1 ⟨rfl, hb⟩
  replace HP := hide (HP.out.step hb)
  replace HZ := hide (HZ.out.step hb)
  replace HR := hide (HR.out.step hb)
  replace HB := hide (over HB.out hb HB.out.size)
  clear hb k0 k1
  obtain ⟨V0, hV0⟩ : ∃ V0, V0 = (valE es key).getD 0 := ⟨_, rfl⟩
  rw [← hV0]
  clear hV0
  rw [hroom]
  clear hroom
  have k0 := HP.out.c0
  have k1 := HP.out.c1
  have hbx := below_box x1 (pageBlock lsn none 0 0)
  have HPA : Hid (PageAt w (x1.alloc (pageBlock lsn none 0 0)) x1.heap.size lsn none 0 0 []) := ⟨heap_alloc_new _ _, ownE_nil _ _, rfl, HB.out.size, over HB.out hbx HB.out.size⟩
  have HP1 := hide (HP.out.step hbx)
  have HZ1 := hide (HZ.out.step hbx)
  have HPN : Hid (x1.heap.size ≠ B3 ∧ x1.heap.size ≠ B6) := ⟨by have := HP.out.lt; omega, by have := HZ.out.lt; omega⟩
  unfold pageBlock at HPA HP1 HZ1
  clear hbx
  go_upto_region 5 with fail
  obtain ⟨Y, hY⟩ : ∃ Y, Y = x1.alloc (.cells #[.int .i64 lsn, .slice none 0 0] 24) := ⟨_, rfl⟩
  rw [← hY] at HPA HP1 HZ1 ⊢
  obtain ⟨P, hP⟩ : ∃ P, P = x1.heap.size := ⟨_, rfl⟩
  rw [← hP] at HPA HPN ⊢
  clear hY hP k0 k1 HP HZ HR HB
  go_wp2_with fail
  go_loopw [11, 12] (fun pl i wr => ∃ (k m : Nat) (a1 : Option Addr) (c1 : Nat), k ≤ n ∧ i = .int .i64 k ∧ pl = .bool (!belowE key (es.take k)) ∧ m ≤ k + 1 ∧ PageAt w wr P lsn a1 m c1 (outE key v (es.take k)) ∧ PBlk wr B3 lsn ao n c ∧ PBlk wr B6 0 none 0 0) (fun _ i _ => n - (intOf i).toNat)
  case atStart => exact ⟨0, 0, none, 0, by omega, rfl, rfl, by omega, HPA.out, HP1.out, HZ1.out⟩
  case round =>
    clear HPA HP1 HZ1
    obtain ⟨k, m, a1, c1, hk, rfl, rfl, hmk, hpa, hp, hz⟩ := hrel
    have HPA := hide hpa
    have HP := hide hp
    have HZ := hide hz
    clear hpa hp hz
    have k1 := HP.out.c1
    by_cases hlt : k < n
    · have hki : (k : Int) < (n : Int) := by omega
      obtain ⟨e, he⟩ : ∃ e, es[k]? = some e := ⟨es[k]'(by rw [HN.out]; exact hlt), List.getElem?_eq_getElem _⟩
      obtain ⟨b, off, rfl, hlb, hc⟩ := HRW.out.2 (by rw [HN.out]; omega)
      have HDD : Hid (∀ Y : World, Below w.heap.size w Y → Y.cell? ⟨b, off + k * 2, none⟩ = some (.int .i64 e.1) ∧ Y.cell? ⟨b, off + k * 2 + 1, none⟩ = some (.int .i64 e.2)) := fun Y hY => ⟨(hY.cell (p := ⟨b, off + k * 2, none⟩) hlb).trans (hc k e he).1, (hY.cell (p := ⟨b, off + k * 2 + 1, none⟩) hlb).trans (hc k e he).2⟩
      obtain ⟨d1, d2⟩ := HDD.out wr HPA.out.bel
      have hts := take_succ_at he
      have hbs := below_snoc key (es.take k) e
      rw [← hts] at hbs
      cases hbl : belowE key (es.take k) with
      | true =>
        rw [hbl, Bool.true_and] at hbs
        have hmk' : m ≤ k := by rw [← HPA.out.num]; unfold outE; rw [if_pos hbl, List.length_take, HN.out]; omega
        rcases Int.lt_trichotomy e.1 key with hx | hx | hx
        · have HT : Hid (outE key v (es.take (k + 1)) = outE key v (es.take k) ++ [e]) := by show _ = _; rw [hts]; exact out_low hbl hx
          have HBL : Hid (belowE key (es.take (k + 1)) = true) := by show _ = _; rw [hbs]; exact decide_eq_true hx
          obtain ⟨x, y⟩ := e
          simp only at d1 d2 hx
          have hx1 : decide (key ≤ x) = false := by simp; omega
          have hx2 : (x != key) = true := by simp; omega
          clear hts hbs hc he hlb hbl
          obtain ⟨a3, c3, w4, hrun, hc3, hf3, hpa, hoth⟩ := HPA.out.drew.more (by omega) (x, y)
          have HRUN : Hid ((Builtin.append_ #[22, 22] 22 #[.slice a1 m c1, .slice (some ⟨wr.heap.size, 0, none⟩) 1 1]).run Tryd.prog (wr.alloc (.cells #[.int .i64 x, .int .i64 y] 60)).drew = .ok (.slice a3 (m + 1) c3) w4) := hrun
          have HPA3 := hide hpa
          have HP3 := hide (hoth _ _ _ _ _ HP.out.drew HPN.out.1.symm)
          have HZ3 := hide (hoth _ _ _ _ _ HZ.out.drew HPN.out.2.symm)
          obtain ⟨c0', c1', f1', cl'⟩ := HPA.out.cell
          clear hrun hpa hoth
          go_wp2_with fail
          apply dup
          case k =>
            intro TAIL
            go_region_law (first | (refine step_append_e (by rfl) (.tmp 67) (.tmp 73) 22 (by rfl) _ _ (by rfl) (by rfl) HRUN.out ?_))
            all_goals exact TAIL.out
          case h =>
            clear hc3 hf3 c0' c1' f1' cl' d1 d2 k1
            go_wp2_with fail
            go_roundw
            case rel => exact ⟨k + 1, m + 1, a3, c3, by omega, by go_num, by rw [HBL.out]; rfl, by omega, by rw [HT.out]; exact HPA3.out, HP3.out, HZ3.out⟩
            case measure => simp [intOf]; omega
        · have HT : Hid (outE key v (es.take (k + 1)) = outE key v (es.take k) ++ [(key, v)]) := by show _ = _; rw [hts]; exact out_same hbl hx
          have HBL : Hid (belowE key (es.take (k + 1)) = false) := by show _ = _; rw [hbs]; exact decide_eq_false (by omega)
          obtain ⟨x, y⟩ := e
          simp only at d1 d2 hx
          have hx1 : decide (key ≤ x) = true := by simp; omega
          have hx2 : (x != key) = false := by simp; omega
          clear hts hbs hc he hlb hbl
          obtain ⟨a2, c2, w3, hrun, hc3, hf3, hpa, hoth⟩ := HPA.out.more (by omega) (key, v)
          have HRUN := hide hrun
          have HPA2 := hide hpa
          have HP2 := hide (hoth _ _ _ _ _ HP.out HPN.out.1.symm)
          have HZ2 := hide (hoth _ _ _ _ _ HZ.out HPN.out.2.symm)
          obtain ⟨c0', c1', f1', cl'⟩ := HPA.out.cell
          clear hrun hpa hoth
          go_upto_region 11 with (first | (with_reducible refine buildE (key, v) ?_ ?_; rfl) | (at_builtin; refine wpList_append_runE rfl (.tmp 51) (.tmp 55) 22 rfl _ _ rfl rfl HRUN.out ?_))
          clear hc3 hf3 c0' c1' f1' cl' k1 d1 d2 HRUN HPA HP HZ
          obtain ⟨Y, hY⟩ : ∃ Y, Y = w3.setCell ⟨P, 1, none⟩ (.slice a2 (m + 1) c2) := ⟨_, rfl⟩
          rw [← hY] at HPA2 HP2 HZ2 ⊢
          clear hY
          have k1 := HP2.out.c1
          obtain ⟨d1, d2⟩ := HDD.out Y HPA2.out.bel
          go_wp2_with fail
          go_roundw
          case rel => exact ⟨k + 1, m + 1, a2, c2, by omega, by go_num, by rw [HBL.out]; rfl, by omega, by rw [HT.out]; exact HPA2.out, HP2.out, HZ2.out⟩
          case measure => simp [intOf]; omega
        · have HT : Hid (outE key v (es.take (k + 1)) = outE key v (es.take k) ++ [(key, v)] ++ [e]) := by show _ = _; rw [hts]; exact out_over hbl hx
          have HBL : Hid (belowE key (es.take (k + 1)) = false) := by show _ = _; rw [hbs]; exact decide_eq_false (by omega)
          obtain ⟨x, y⟩ := e
          simp only at d1 d2 hx
          have hx1 : decide (key ≤ x) = true := by simp; omega
          have hx2 : (x != key) = true := by simp; omega
          clear hts hbs hc he hlb hbl
          obtain ⟨a2, c2, w3, hrun, hc3, hf3, hpa, hoth⟩ := HPA.out.more (by omega) (key, v)
          have HRUN := hide hrun
          have HPA2 := hide hpa
          have HP2 := hide (hoth _ _ _ _ _ HP.out HPN.out.1.symm)
          have HZ2 := hide (hoth _ _ _ _ _ HZ.out HPN.out.2.symm)
          obtain ⟨c0', c1', f1', cl'⟩ := HPA.out.cell
          clear hrun hpa hoth
          go_upto_region 11 with (first | (with_reducible refine buildE (key, v) ?_ ?_; rfl) | (at_builtin; refine wpList_append_runE rfl (.tmp 51) (.tmp 55) 22 rfl _ _ rfl rfl HRUN.out ?_))
          clear hc3 hf3 c0' c1' f1' cl' k1 d1 d2 HRUN HPA HP HZ
          obtain ⟨Y, hY⟩ : ∃ Y, Y = w3.setCell ⟨P, 1, none⟩ (.slice a2 (m + 1) c2) := ⟨_, rfl⟩
          rw [← hY] at HPA2 HP2 HZ2 ⊢
          clear hY
          have k1 := HP2.out.c1
          obtain ⟨d1, d2⟩ := HDD.out Y HPA2.out.bel
          obtain ⟨a3, c3, w4, hrun, hc3, hf3, hpa, hoth⟩ := HPA2.out.drew.more (by omega) (x, y)
          have HRUN : Hid ((Builtin.append_ #[22, 22] 22 #[.slice a2 (m + 1) c2, .slice (some ⟨Y.heap.size, 0, none⟩) 1 1]).run Tryd.prog (Y.alloc (.cells #[.int .i64 x, .int .i64 y] 60)).drew = .ok (.slice a3 (m + 1 + 1) c3) w4) := hrun
          have HPA3 := hide hpa
          have HP3 := hide (hoth _ _ _ _ _ HP2.out.drew HPN.out.1.symm)
          have HZ3 := hide (hoth _ _ _ _ _ HZ2.out.drew HPN.out.2.symm)
          obtain ⟨c0', c1', f1', cl'⟩ := HPA2.out.cell
          clear hrun hpa hoth
          go_wp2_with fail
          apply dup
          case k =>
            intro TAIL
            go_region_law (first | (refine step_append_e (by rfl) (.tmp 67) (.tmp 73) 22 (by rfl) _ _ (by rfl) (by rfl) HRUN.out ?_))
            all_goals exact TAIL.out
          case h =>
            clear hc3 hf3 c0' c1' f1' cl' d1 d2 k1
            go_wp2_with fail
            go_roundw
            case rel => exact ⟨k + 1, m + 1 + 1, a3, c3, by omega, by go_num, by rw [HBL.out]; rfl, by omega, by rw [HT.out]; exact HPA3.out, HP3.out, HZ3.out⟩
            case measure => simp [intOf]; omega
      | false =>
        have HT : Hid (outE key v (es.take (k + 1)) = outE key v (es.take k) ++ [e]) := by show _ = _; rw [hts]; exact out_behind hbl
        have hx := behind_ne HU.out he hbl
        have HBL : Hid (belowE key (es.take (k + 1)) = false) := by show _ = _; rw [hbs, hbl]; rfl
        have hmk2 : m + 1 ≤ k + 1 + 1 := by omega
        obtain ⟨x, y⟩ := e
        simp only at d1 d2 hx
        have hx2 : (x != key) = true := by simpa using hx
        clear hts hbs hc he hlb hbl
        obtain ⟨a3, c3, w4, hrun, hc3, hf3, hpa, hoth⟩ := HPA.out.drew.more (by omega) (x, y)
        have HRUN : Hid ((Builtin.append_ #[22, 22] 22 #[.slice a1 m c1, .slice (some ⟨wr.heap.size, 0, none⟩) 1 1]).run Tryd.prog (wr.alloc (.cells #[.int .i64 x, .int .i64 y] 60)).drew = .ok (.slice a3 (m + 1) c3) w4) := hrun
        have HPA3 := hide hpa
        have HP3 := hide (hoth _ _ _ _ _ HP.out.drew HPN.out.1.symm)
        have HZ3 := hide (hoth _ _ _ _ _ HZ.out.drew HPN.out.2.symm)
        obtain ⟨c0', c1', f1', cl'⟩ := HPA.out.cell
        clear hrun hpa hoth
        go_wp2_with fail
        apply dup
        case k =>
          intro TAIL
          go_region_law (first | (refine step_append_e (by rfl) (.tmp 67) (.tmp 73) 22 (by rfl) _ _ (by rfl) (by rfl) HRUN.out ?_))
          all_goals exact TAIL.out
        case h =>
          clear hc3 hf3 c0' c1' f1' cl' d1 d2 k1
          go_wp2_with fail
          go_roundw
          case rel => exact ⟨k + 1, m + 1, a3, c3, by omega, by go_num, by rw [HBL.out]; rfl, by omega, by rw [HT.out]; exact HPA3.out, HP3.out, HZ3.out⟩
          case measure => simp [intOf]; omega
    · have hki : decide ((k : Int) < (n : Int)) = false := by simp; omega
      have hkn : k = n := by omega
      subst hkn
      have HTK : Hid (es.take k = es) := List.take_of_length_le (by rw [HN.out]; exact Nat.le_refl _)
      cases hbl : belowE key (es.take k) with
      | true =>
        have HT : Hid (insE key v es = outE key v (es.take k) ++ [(key, v)]) := by show _ = _; rw [HTK.out] at hbl ⊢; exact out_end hbl
        clear hbl
        obtain ⟨a2, c2, w3, hrun, hc3, hf3, hpa, hoth⟩ := HPA.out.more (by omega) (key, v)
        have HRUN := hide hrun
        have HPA2 := hide hpa
        have HP2 := hide (hoth _ _ _ _ _ HP.out HPN.out.1.symm)
        have HZ2 := hide (hoth _ _ _ _ _ HZ.out HPN.out.2.symm)
        obtain ⟨c0', c1', f1', cl'⟩ := HPA.out.cell
        clear hrun hpa hoth
        go_upto_region 16 with (first | (with_reducible refine buildE (key, v) ?_ ?_; rfl) | (at_builtin; refine wpList_append_runE rfl (.tmp 79) (.tmp 83) 22 rfl _ _ rfl rfl HRUN.out ?_))
        clear hc3 hf3 c0' c1' f1' cl' k1 HRUN HPA HP HZ
        obtain ⟨Y, hY⟩ : ∃ Y, Y = w3.setCell ⟨P, 1, none⟩ (.slice a2 (m + 1) c2) := ⟨_, rfl⟩
        rw [← hY] at HPA2 HP2 HZ2 ⊢
        clear hY
        obtain ⟨c0', c1', f1', cl'⟩ := HPA2.out.cell
        have z0 := HZ2.out.c0
        have z1 := HZ2.out.c1
        have g0 := HZ2.out.fz 0
        have g1 := HZ2.out.fz 1
        have HM2 : Hid ((insE key v es).length = m + 1) := by show _ = _; rw [HT.out]; exact HPA2.out.num
        have HO2 : Hid (OwnE Y w.heap.size a2 c2 (insE key v es)) := by have := HPA2.out.own; rw [← HT.out] at this; exact this
        have HB2 := hide HPA2.out.bel
        go_wp2_with fail
        exact bodyPost_ret (v := .tuple #[.agg #[.int .i64 lsn, .slice a2 (m + 1) c2], .bool true]) (by simp [results, Tryd.results26, go_sem, z0, z1]) rfl ⟨a2, m + 1, c2, rfl, HM2.out, (HO2.out.setPage HZ2.out 0 _).setPage (set_block HZ2.out 0 _) 1 _, (HB2.out.setCell (p := ⟨B6, 0, none⟩) HLO.out _).setCell (p := ⟨B6, 1, none⟩) HLO.out _⟩
      | false =>
        have HT : Hid (insE key v es = outE key v (es.take k)) := by show _ = _; rw [HTK.out] at hbl ⊢; exact out_end' hbl
        clear hbl
        obtain ⟨c0', c1', f1', cl'⟩ := HPA.out.cell
        have z0 := HZ.out.c0
        have z1 := HZ.out.c1
        have g0 := HZ.out.fz 0
        have g1 := HZ.out.fz 1
        have HM2 : Hid ((insE key v es).length = m) := by show _ = _; rw [HT.out]; exact HPA.out.num
        have HO2 : Hid (OwnE wr w.heap.size a1 c1 (insE key v es)) := by have := HPA.out.own; rw [← HT.out] at this; exact this
        have HB2 := hide HPA.out.bel
        go_wp2_with fail
        exact bodyPost_ret (v := .tuple #[.agg #[.int .i64 lsn, .slice a1 m c1], .bool true]) (by simp [results, Tryd.results26, go_sem, z0, z1]) rfl ⟨a1, m, c1, rfl, HM2.out, (HO2.out.setPage HZ.out 0 _).setPage (set_block HZ.out 0 _) 1 _, (HB2.out.setCell (p := ⟨B6, 0, none⟩) HLO.out _).setCell (p := ⟨B6, 1, none⟩) HLO.out _⟩
end Go.Proofs.YtefgmlmhdjckaaaDoor

/- What the document's own Put answers of a key that is not there, where there is room. -/
namespace Go.Proofs.YtefgmlmhdjckaaaDoor
open Go.RowKit
set_option linter.unusedVariables false

set_option maxRecDepth 100000 in
set_option maxHeartbeats 8000000 in
theorem rput_room (lsn : Int) (ao : Option Addr) (n c : Nat) (es : List (Int × Int)) (key v : Int) (w : World) (h : EntRow w ao es) (hu : Up es) (hn : es.length = n) (hn9 : n ≤ 100) (hroom : hasE es key = false) (hn20 : n < 20) :
    Calls Tryd.prog 26 #[pageV lsn ao n c, .int .i64 key, .int .i64 v] w fun r w' => ∃ ao' m c', r = .returned (.tuple #[pageV lsn ao' m c', .bool true]) ∧ (insE key v es).length = m ∧ OwnE w' w.heap.size ao' c' (insE key v es) ∧ Below w.heap.size w w' := by
  obtain ⟨X, hX, hp, hz, hrow, hb⟩ := boxes2 w lsn ao n c h
  have HN := hide hn
  have HU := hide hu
  have HX := hide hX
  obtain ⟨B3, hB3⟩ : ∃ B3, B3 = w.heap.size := ⟨_, rfl⟩
  have HB3 := hide hB3
  rw [← hB3] at hp hz
  obtain ⟨B6, hB6⟩ : ∃ B6, B6 = B3 + 1 := ⟨_, rfl⟩
  have HB6 := hide hB6
  rw [← hB6] at hz
  have H36 : Hid (¬ B3 = B6) := by show ¬ B3 = B6; omega
  have HLO : Hid (w.heap.size ≤ B6) := by show w.heap.size ≤ B6; omega
  have HP := hide hp
  have HZ := hide hz
  have HR := hide hrow
  have HRW := hide h
  have HB := hide hb
  unfold pageBlock at HX
  unfold pageV
  clear hX hp hz hrow hb hn hB3 hB6 h hu
  go_enter Tryd.func26, Tryd.ntmps26
  go_upto_region 1 with fail
  rw [← HX.out, ← HB3.out, ← HB6.out]
  clear HX HB3 HB6
  have k0 := HP.out.c0
  have k1 := HP.out.c1
  go_wp2_with fail
  refine (rfind_any lsn ao n c es key _ HR.out HN.out).mono ?_
  rintro e x1 ⟨rfl, hb⟩
  replace HP := hide (HP.out.step hb)
  replace HZ := hide (HZ.out.step hb)
  replace HR := hide (HR.out.step hb)
  replace HB := hide (over HB.out hb HB.out.size)
  clear hb k0 k1
  obtain ⟨V0, hV0⟩ : ∃ V0, V0 = (valE es key).getD 0 := ⟨_, rfl⟩
  rw [← hV0]
  clear hV0
  rw [hroom]
  have hni : decide ((20 : Int) ≤ (n : Int)) = false := by simp; omega
  clear hroom
  have k0 := HP.out.c0
  have k1 := HP.out.c1
  have hbx := below_box x1 (pageBlock lsn none 0 0)
  have HPA : Hid (PageAt w (x1.alloc (pageBlock lsn none 0 0)) x1.heap.size lsn none 0 0 []) := ⟨heap_alloc_new _ _, ownE_nil _ _, rfl, HB.out.size, over HB.out hbx HB.out.size⟩
  have HP1 := hide (HP.out.step hbx)
  have HZ1 := hide (HZ.out.step hbx)
  have HPN : Hid (x1.heap.size ≠ B3 ∧ x1.heap.size ≠ B6) := ⟨by have := HP.out.lt; omega, by have := HZ.out.lt; omega⟩
  unfold pageBlock at HPA HP1 HZ1
  clear hbx
  go_upto_region 5 with fail
  obtain ⟨Y, hY⟩ : ∃ Y, Y = x1.alloc (.cells #[.int .i64 lsn, .slice none 0 0] 24) := ⟨_, rfl⟩
  rw [← hY] at HPA HP1 HZ1 ⊢
  obtain ⟨P, hP⟩ : ∃ P, P = x1.heap.size := ⟨_, rfl⟩
  rw [← hP] at HPA HPN ⊢
  clear hY hP k0 k1 HP HZ HR HB
  go_wp2_with fail
  go_loopw [11, 12] (fun pl i wr => ∃ (k m : Nat) (a1 : Option Addr) (c1 : Nat), k ≤ n ∧ i = .int .i64 k ∧ pl = .bool (!belowE key (es.take k)) ∧ m ≤ k + 1 ∧ PageAt w wr P lsn a1 m c1 (outE key v (es.take k)) ∧ PBlk wr B3 lsn ao n c ∧ PBlk wr B6 0 none 0 0) (fun _ i _ => n - (intOf i).toNat)
  case atStart => exact ⟨0, 0, none, 0, by omega, rfl, rfl, by omega, HPA.out, HP1.out, HZ1.out⟩
  case round =>
    clear HPA HP1 HZ1
    obtain ⟨k, m, a1, c1, hk, rfl, rfl, hmk, hpa, hp, hz⟩ := hrel
    have HPA := hide hpa
    have HP := hide hp
    have HZ := hide hz
    clear hpa hp hz
    have k1 := HP.out.c1
    by_cases hlt : k < n
    · have hki : (k : Int) < (n : Int) := by omega
      obtain ⟨e, he⟩ : ∃ e, es[k]? = some e := ⟨es[k]'(by rw [HN.out]; exact hlt), List.getElem?_eq_getElem _⟩
      obtain ⟨b, off, rfl, hlb, hc⟩ := HRW.out.2 (by rw [HN.out]; omega)
      have HDD : Hid (∀ Y : World, Below w.heap.size w Y → Y.cell? ⟨b, off + k * 2, none⟩ = some (.int .i64 e.1) ∧ Y.cell? ⟨b, off + k * 2 + 1, none⟩ = some (.int .i64 e.2)) := fun Y hY => ⟨(hY.cell (p := ⟨b, off + k * 2, none⟩) hlb).trans (hc k e he).1, (hY.cell (p := ⟨b, off + k * 2 + 1, none⟩) hlb).trans (hc k e he).2⟩
      obtain ⟨d1, d2⟩ := HDD.out wr HPA.out.bel
      have hts := take_succ_at he
      have hbs := below_snoc key (es.take k) e
      rw [← hts] at hbs
      cases hbl : belowE key (es.take k) with
      | true =>
        rw [hbl, Bool.true_and] at hbs
        have hmk' : m ≤ k := by rw [← HPA.out.num]; unfold outE; rw [if_pos hbl, List.length_take, HN.out]; omega
        rcases Int.lt_trichotomy e.1 key with hx | hx | hx
        · have HT : Hid (outE key v (es.take (k + 1)) = outE key v (es.take k) ++ [e]) := by show _ = _; rw [hts]; exact out_low hbl hx
          have HBL : Hid (belowE key (es.take (k + 1)) = true) := by show _ = _; rw [hbs]; exact decide_eq_true hx
          obtain ⟨x, y⟩ := e
          simp only at d1 d2 hx
          have hx1 : decide (key ≤ x) = false := by simp; omega
          have hx2 : (x != key) = true := by simp; omega
          clear hts hbs hc he hlb hbl
          obtain ⟨a3, c3, w4, hrun, hc3, hf3, hpa, hoth⟩ := HPA.out.drew.more (by omega) (x, y)
          have HRUN : Hid ((Builtin.append_ #[22, 22] 22 #[.slice a1 m c1, .slice (some ⟨wr.heap.size, 0, none⟩) 1 1]).run Tryd.prog (wr.alloc (.cells #[.int .i64 x, .int .i64 y] 60)).drew = .ok (.slice a3 (m + 1) c3) w4) := hrun
          have HPA3 := hide hpa
          have HP3 := hide (hoth _ _ _ _ _ HP.out.drew HPN.out.1.symm)
          have HZ3 := hide (hoth _ _ _ _ _ HZ.out.drew HPN.out.2.symm)
          obtain ⟨c0', c1', f1', cl'⟩ := HPA.out.cell
          clear hrun hpa hoth
          go_wp2_with fail
          apply dup
          case k =>
            intro TAIL
            go_region_law (first | (refine step_append_e (by rfl) (.tmp 67) (.tmp 73) 22 (by rfl) _ _ (by rfl) (by rfl) HRUN.out ?_))
            all_goals exact TAIL.out
          case h =>
            clear hc3 hf3 c0' c1' f1' cl' d1 d2 k1
            go_wp2_with fail
            go_roundw
            case rel => exact ⟨k + 1, m + 1, a3, c3, by omega, by go_num, by rw [HBL.out]; rfl, by omega, by rw [HT.out]; exact HPA3.out, HP3.out, HZ3.out⟩
            case measure => simp [intOf]; omega
        · have HT : Hid (outE key v (es.take (k + 1)) = outE key v (es.take k) ++ [(key, v)]) := by show _ = _; rw [hts]; exact out_same hbl hx
          have HBL : Hid (belowE key (es.take (k + 1)) = false) := by show _ = _; rw [hbs]; exact decide_eq_false (by omega)
          obtain ⟨x, y⟩ := e
          simp only at d1 d2 hx
          have hx1 : decide (key ≤ x) = true := by simp; omega
          have hx2 : (x != key) = false := by simp; omega
          clear hts hbs hc he hlb hbl
          obtain ⟨a2, c2, w3, hrun, hc3, hf3, hpa, hoth⟩ := HPA.out.more (by omega) (key, v)
          have HRUN := hide hrun
          have HPA2 := hide hpa
          have HP2 := hide (hoth _ _ _ _ _ HP.out HPN.out.1.symm)
          have HZ2 := hide (hoth _ _ _ _ _ HZ.out HPN.out.2.symm)
          obtain ⟨c0', c1', f1', cl'⟩ := HPA.out.cell
          clear hrun hpa hoth
          go_upto_region 11 with (first | (with_reducible refine buildE (key, v) ?_ ?_; rfl) | (at_builtin; refine wpList_append_runE rfl (.tmp 51) (.tmp 55) 22 rfl _ _ rfl rfl HRUN.out ?_))
          clear hc3 hf3 c0' c1' f1' cl' k1 d1 d2 HRUN HPA HP HZ
          obtain ⟨Y, hY⟩ : ∃ Y, Y = w3.setCell ⟨P, 1, none⟩ (.slice a2 (m + 1) c2) := ⟨_, rfl⟩
          rw [← hY] at HPA2 HP2 HZ2 ⊢
          clear hY
          have k1 := HP2.out.c1
          obtain ⟨d1, d2⟩ := HDD.out Y HPA2.out.bel
          go_wp2_with fail
          go_roundw
          case rel => exact ⟨k + 1, m + 1, a2, c2, by omega, by go_num, by rw [HBL.out]; rfl, by omega, by rw [HT.out]; exact HPA2.out, HP2.out, HZ2.out⟩
          case measure => simp [intOf]; omega
        · have HT : Hid (outE key v (es.take (k + 1)) = outE key v (es.take k) ++ [(key, v)] ++ [e]) := by show _ = _; rw [hts]; exact out_over hbl hx
          have HBL : Hid (belowE key (es.take (k + 1)) = false) := by show _ = _; rw [hbs]; exact decide_eq_false (by omega)
          obtain ⟨x, y⟩ := e
          simp only at d1 d2 hx
          have hx1 : decide (key ≤ x) = true := by simp; omega
          have hx2 : (x != key) = true := by simp; omega
          clear hts hbs hc he hlb hbl
          obtain ⟨a2, c2, w3, hrun, hc3, hf3, hpa, hoth⟩ := HPA.out.more (by omega) (key, v)
          have HRUN := hide hrun
          have HPA2 := hide hpa
          have HP2 := hide (hoth _ _ _ _ _ HP.out HPN.out.1.symm)
          have HZ2 := hide (hoth _ _ _ _ _ HZ.out HPN.out.2.symm)
          obtain ⟨c0', c1', f1', cl'⟩ := HPA.out.cell
          clear hrun hpa hoth
          go_upto_region 11 with (first | (with_reducible refine buildE (key, v) ?_ ?_; rfl) | (at_builtin; refine wpList_append_runE rfl (.tmp 51) (.tmp 55) 22 rfl _ _ rfl rfl HRUN.out ?_))
          clear hc3 hf3 c0' c1' f1' cl' k1 d1 d2 HRUN HPA HP HZ
          obtain ⟨Y, hY⟩ : ∃ Y, Y = w3.setCell ⟨P, 1, none⟩ (.slice a2 (m + 1) c2) := ⟨_, rfl⟩
          rw [← hY] at HPA2 HP2 HZ2 ⊢
          clear hY
          have k1 := HP2.out.c1
          obtain ⟨d1, d2⟩ := HDD.out Y HPA2.out.bel
          obtain ⟨a3, c3, w4, hrun, hc3, hf3, hpa, hoth⟩ := HPA2.out.drew.more (by omega) (x, y)
          have HRUN : Hid ((Builtin.append_ #[22, 22] 22 #[.slice a2 (m + 1) c2, .slice (some ⟨Y.heap.size, 0, none⟩) 1 1]).run Tryd.prog (Y.alloc (.cells #[.int .i64 x, .int .i64 y] 60)).drew = .ok (.slice a3 (m + 1 + 1) c3) w4) := hrun
          have HPA3 := hide hpa
          have HP3 := hide (hoth _ _ _ _ _ HP2.out.drew HPN.out.1.symm)
          have HZ3 := hide (hoth _ _ _ _ _ HZ2.out.drew HPN.out.2.symm)
          obtain ⟨c0', c1', f1', cl'⟩ := HPA2.out.cell
          clear hrun hpa hoth
          go_wp2_with fail
          apply dup
          case k =>
            intro TAIL
            go_region_law (first | (refine step_append_e (by rfl) (.tmp 67) (.tmp 73) 22 (by rfl) _ _ (by rfl) (by rfl) HRUN.out ?_))
            all_goals exact TAIL.out
          case h =>
            clear hc3 hf3 c0' c1' f1' cl' d1 d2 k1
            go_wp2_with fail
            go_roundw
            case rel => exact ⟨k + 1, m + 1 + 1, a3, c3, by omega, by go_num, by rw [HBL.out]; rfl, by omega, by rw [HT.out]; exact HPA3.out, HP3.out, HZ3.out⟩
            case measure => simp [intOf]; omega
      | false =>
        have HT : Hid (outE key v (es.take (k + 1)) = outE key v (es.take k) ++ [e]) := by show _ = _; rw [hts]; exact out_behind hbl
        have hx := behind_ne HU.out he hbl
        have HBL : Hid (belowE key (es.take (k + 1)) = false) := by show _ = _; rw [hbs, hbl]; rfl
        have hmk2 : m + 1 ≤ k + 1 + 1 := by omega
        obtain ⟨x, y⟩ := e
        simp only at d1 d2 hx
        have hx2 : (x != key) = true := by simpa using hx
        clear hts hbs hc he hlb hbl
        obtain ⟨a3, c3, w4, hrun, hc3, hf3, hpa, hoth⟩ := HPA.out.drew.more (by omega) (x, y)
        have HRUN : Hid ((Builtin.append_ #[22, 22] 22 #[.slice a1 m c1, .slice (some ⟨wr.heap.size, 0, none⟩) 1 1]).run Tryd.prog (wr.alloc (.cells #[.int .i64 x, .int .i64 y] 60)).drew = .ok (.slice a3 (m + 1) c3) w4) := hrun
        have HPA3 := hide hpa
        have HP3 := hide (hoth _ _ _ _ _ HP.out.drew HPN.out.1.symm)
        have HZ3 := hide (hoth _ _ _ _ _ HZ.out.drew HPN.out.2.symm)
        obtain ⟨c0', c1', f1', cl'⟩ := HPA.out.cell
        clear hrun hpa hoth
        go_wp2_with fail
        apply dup
        case k =>
          intro TAIL
          go_region_law (first | (refine step_append_e (by rfl) (.tmp 67) (.tmp 73) 22 (by rfl) _ _ (by rfl) (by rfl) HRUN.out ?_))
          all_goals exact TAIL.out
        case h =>
          clear hc3 hf3 c0' c1' f1' cl' d1 d2 k1
          go_wp2_with fail
          go_roundw
          case rel => exact ⟨k + 1, m + 1, a3, c3, by omega, by go_num, by rw [HBL.out]; rfl, by omega, by rw [HT.out]; exact HPA3.out, HP3.out, HZ3.out⟩
          case measure => simp [intOf]; omega
    · have hki : decide ((k : Int) < (n : Int)) = false := by simp; omega
      have hkn : k = n := by omega
      subst hkn
      have HTK : Hid (es.take k = es) := List.take_of_length_le (by rw [HN.out]; exact Nat.le_refl _)
      cases hbl : belowE key (es.take k) with
      | true =>
        have HT : Hid (insE key v es = outE key v (es.take k) ++ [(key, v)]) := by show _ = _; rw [HTK.out] at hbl ⊢; exact out_end hbl
        clear hbl
        obtain ⟨a2, c2, w3, hrun, hc3, hf3, hpa, hoth⟩ := HPA.out.more (by omega) (key, v)
        have HRUN := hide hrun
        have HPA2 := hide hpa
        have HP2 := hide (hoth _ _ _ _ _ HP.out HPN.out.1.symm)
        have HZ2 := hide (hoth _ _ _ _ _ HZ.out HPN.out.2.symm)
        obtain ⟨c0', c1', f1', cl'⟩ := HPA.out.cell
        clear hrun hpa hoth
        go_upto_region 16 with (first | (with_reducible refine buildE (key, v) ?_ ?_; rfl) | (at_builtin; refine wpList_append_runE rfl (.tmp 79) (.tmp 83) 22 rfl _ _ rfl rfl HRUN.out ?_))
        clear hc3 hf3 c0' c1' f1' cl' k1 HRUN HPA HP HZ
        obtain ⟨Y, hY⟩ : ∃ Y, Y = w3.setCell ⟨P, 1, none⟩ (.slice a2 (m + 1) c2) := ⟨_, rfl⟩
        rw [← hY] at HPA2 HP2 HZ2 ⊢
        clear hY
        obtain ⟨c0', c1', f1', cl'⟩ := HPA2.out.cell
        have z0 := HZ2.out.c0
        have z1 := HZ2.out.c1
        have g0 := HZ2.out.fz 0
        have g1 := HZ2.out.fz 1
        have HM2 : Hid ((insE key v es).length = m + 1) := by show _ = _; rw [HT.out]; exact HPA2.out.num
        have HO2 : Hid (OwnE Y w.heap.size a2 c2 (insE key v es)) := by have := HPA2.out.own; rw [← HT.out] at this; exact this
        have HB2 := hide HPA2.out.bel
        go_wp2_with fail
        exact bodyPost_ret (v := .tuple #[.agg #[.int .i64 lsn, .slice a2 (m + 1) c2], .bool true]) (by simp [results, Tryd.results26, go_sem, z0, z1]) rfl ⟨a2, m + 1, c2, rfl, HM2.out, (HO2.out.setPage HZ2.out 0 _).setPage (set_block HZ2.out 0 _) 1 _, (HB2.out.setCell (p := ⟨B6, 0, none⟩) HLO.out _).setCell (p := ⟨B6, 1, none⟩) HLO.out _⟩
      | false =>
        have HT : Hid (insE key v es = outE key v (es.take k)) := by show _ = _; rw [HTK.out] at hbl ⊢; exact out_end' hbl
        clear hbl
        obtain ⟨c0', c1', f1', cl'⟩ := HPA.out.cell
        have z0 := HZ.out.c0
        have z1 := HZ.out.c1
        have g0 := HZ.out.fz 0
        have g1 := HZ.out.fz 1
        have HM2 : Hid ((insE key v es).length = m) := by show _ = _; rw [HT.out]; exact HPA.out.num
        have HO2 : Hid (OwnE wr w.heap.size a1 c1 (insE key v es)) := by have := HPA.out.own; rw [← HT.out] at this; exact this
        have HB2 := hide HPA.out.bel
        go_wp2_with fail
        exact bodyPost_ret (v := .tuple #[.agg #[.int .i64 lsn, .slice a1 m c1], .bool true]) (by simp [results, Tryd.results26, go_sem, z0, z1]) rfl ⟨a1, m, c1, rfl, HM2.out, (HO2.out.setPage HZ.out 0 _).setPage (set_block HZ.out 0 _) 1 _, (HB2.out.setCell (p := ⟨B6, 0, none⟩) HLO.out _).setCell (p := ⟨B6, 1, none⟩) HLO.out _⟩
end Go.Proofs.YtefgmlmhdjckaaaDoor

/- What page.Remove answers. -/
namespace Go.Proofs.YtefgmlmhdjckaaaDoor
open Go.RowKit
set_option linter.unusedVariables false

set_option maxRecDepth 100000 in
set_option maxHeartbeats 4000000 in
theorem rem_any (lsn : Int) (ao : Option Addr) (n c : Nat) (es : List (Int × Int)) (key : Int) (w : World) (h : EntRow w ao es) (hn : es.length = n) :
    Calls Tryd.prog 27 #[pageV lsn ao n c, .int .i64 key] w fun r w' => ∃ ao' m c', r = .returned (.tuple #[pageV lsn ao' m c', .bool (hasE es key)]) ∧ (remE key es).length = m ∧ OwnE w' w.heap.size ao' c' (remE key es) ∧ Below w.heap.size w w' := by
  have hs := h.1
  rw [hn] at hs
  obtain ⟨X, hX, hp, hz, hrow, hb⟩ := boxes2 w lsn ao n c h
  have HN := hide hn
  have HX := hide hX
  obtain ⟨B3, hB3⟩ : ∃ B3, B3 = w.heap.size := ⟨_, rfl⟩
  have HB3 := hide hB3
  rw [← hB3] at hp hz
  obtain ⟨B6, hB6⟩ : ∃ B6, B6 = B3 + 1 := ⟨_, rfl⟩
  have HB6 := hide hB6
  rw [← hB6] at hz
  have H36 : Hid (¬ B3 = B6) := by show ¬ B3 = B6; omega
  have HLO : Hid (w.heap.size ≤ B6) := by show w.heap.size ≤ B6; omega
  have HLX := hide hb.size
  have HL3 : Hid (B3 < X.heap.size) := hp.lt
  have HL6 : Hid (B6 < X.heap.size) := hz.lt
  have HP := hide hp
  have HZ := hide hz
  have HR := hide hrow
  have HB := hide hb
  unfold pageBlock at HX
  unfold pageV
  clear hX hp hz hrow hb hn hB3 hB6 h
  go_enter Tryd.func27, Tryd.ntmps27
  go_upto_region 1 with fail
  rw [← HX.out, ← HB3.out, ← HB6.out]
  clear HX HB3 HB6
  have k1 := HP.out.c1
  go_wp2_with fail
  go_loopw [6, 12] (fun v i wr => ∃ (k m : Nat) (a1 : Option Addr) (c1 : Nat), k ≤ n ∧ i = .int .i64 k ∧ v = .slice a1 m c1 ∧ (remE key (es.take k)).length = m ∧ OwnE wr X.heap.size a1 c1 (remE key (es.take k)) ∧ Below X.heap.size X wr) (fun _ i _ => n - (intOf i).toNat)
  case atStart => exact ⟨0, 0, none, 0, by omega, rfl, rfl, rfl, ownE_nil _ _, Below.refl _ _⟩
  case round =>
    clear k1
    obtain ⟨k, m, a1, c1, hk, rfl, rfl, hm, hown, hbel⟩ := hrel
    have hmk : m ≤ k := by rw [← hm]; exact Nat.le_trans (len_rem_le _ _) (by rw [List.length_take]; omega)
    have HM := hide hm
    have HO := hide hown
    have HBX := hide hbel
    clear hm hown hbel
    by_cases hlt : k < n
    · have hki : (k : Int) < (n : Int) := by omega
      obtain ⟨e, he⟩ : ∃ e, es[k]? = some e := ⟨es[k]'(by rw [HN.out]; exact hlt), List.getElem?_eq_getElem _⟩
      obtain ⟨b, off, rfl, hlb, hc⟩ := HR.out.2 (by rw [HN.out]; omega)
      obtain ⟨d1, d2⟩ := hc k e he
      have k1 := (HBX.out.cell (p := ⟨b, off + k * 2, none⟩) hlb).trans d1
      have k2 := (HBX.out.cell (p := ⟨b, off + k * 2 + 1, none⟩) hlb).trans d2
      have hb1 := below_box wr (entBlock e)
      have HB1 := hide (over HBX.out hb1 HBX.out.size)
      have HO1 := hide (HO.out.step hb1)
      by_cases hx : e.1 = key
      · have HT := hide (rem_skip he hx)
        obtain ⟨x, y⟩ := e
        simp only at k1 k2 hx
        unfold entBlock at HB1 HO1
        clear hc d1 d2 he hlb hb1
        subst hx
        go_wp2_with fail
        go_roundw
        case rel => exact ⟨k + 1, m, a1, c1, by omega, by go_num, rfl, by rw [HT.out]; exact HM.out, by rw [HT.out]; exact HO1.out, HB1.out⟩
        case measure => simp [intOf]; omega
      · have HT := hide (rem_keep he hx)
        have hb2 := below_box (wr.alloc (entBlock e)) (entBlock e)
        obtain ⟨a2, c2, w2, hrun, hown2, hgr, hb3⟩ := run_appendE (yc := 1) (HO1.out.step hb2) HM.out (show [e].length = 1 from rfl) (by omega) (Nat.le_trans HB1.out.size hb2.size) (ent_new (wr.alloc (entBlock e)) e) 22
        rw [← HT.out] at hown2
        have HRUN := hide hrun
        have HO2 := hide hown2
        have HB2 := hide ((over HB1.out hb2 HB1.out.size).trans hb3)
        have HM2 : Hid ((remE key (es.take (k + 1))).length = m + 1) := by show _ = _; rw [HT.out, List.length_append, HM.out]; rfl
        obtain ⟨x, y⟩ := e
        simp only at k1 k2 hx
        have hx' : (x != key) = true := by simpa using hx
        clear hc d1 d2 he hlb hb1 hb2 hrun hown2 hgr hb3 HO HO1
        obtain ⟨V, hV⟩ : ∃ V, V = (wr.alloc (entBlock (x, y))).heap.size := ⟨_, rfl⟩
        rw [show entBlock (x, y) = .cells #[.int .i64 x, .int .i64 y] 60 from rfl] at hV
        go_wp2_with (first | (refine buildE (x, y) rfl ?_) | (at_builtin; refine wpList_append_runE rfl (.tmp 20) (.tmp 22) 22 rfl _ _ rfl rfl HRUN.out ?_))
        go_roundw
        case rel => exact ⟨k + 1, m + 1, a2, c2, by omega, by go_num, rfl, HM2.out, HO2.out, HB2.out⟩
        case measure => simp [intOf]; omega
    · have hki : decide ((k : Int) < (n : Int)) = false := by simp; omega
      have hkn : k = n := by omega
      subst hkn
      have HTK : Hid (es.take k = es) := List.take_of_length_le (by rw [HN.out]; exact Nat.le_refl _)
      have HM2 : Hid ((remE key es).length = m) := by show _ = _; rw [← HTK.out]; exact HM.out
      have HO2 : Hid (OwnE wr w.heap.size a1 c1 (remE key es)) := by have := HO.out.mono HLX.out; rw [HTK.out] at this; exact this
      have HV : Hid (decide ((m : Int) < (k : Int)) = hasE es key) := by
        show _ = _
        have h1 := len_rem_lt es key
        rw [HM2.out, HN.out] at h1
        cases hq : hasE es key with
        | true => rw [hq] at h1; exact decide_eq_true (by have := h1.2 rfl; omega)
        | false => rw [hq] at h1; exact decide_eq_false (fun h2 => by have := h1.1 (by omega); cases this)
      replace HP := hide (HP.out.below HBX.out HL3.out)
      replace HZ := hide (HZ.out.below HBX.out HL6.out)
      replace HB := hide (HB.out.trans (HBX.out.mono HLX.out))
      have k0 := HP.out.c0
      have k1 := HP.out.c1
      have z0 := HZ.out.c0
      have z1 := HZ.out.c1
      have g0 := HZ.out.fz 0
      have g1 := HZ.out.fz 1
      have HNE : ¬ B3 = B6 := H36.out
      have HNE2 : ¬ B6 = B3 := fun e => HNE e.symm
      obtain ⟨bv, hbv⟩ : ∃ bv, decide ((m : Int) < (k : Int)) = bv := ⟨_, rfl⟩
      have HBV : Hid (bv = hasE es key) := by show _ = _; rw [← hbv]; exact HV.out
      have hbv2 : decide (m < k) = bv := by rw [← hbv]; simp
      clear HV HM HO HTK HBX
      go_wp2_with fail
      go_region
      all_goals
        go_wp2_with fail
        exact bodyPost_ret (v := .tuple #[.agg #[.int .i64 lsn, .slice a1 m c1], .bool bv]) (by simp [results, Tryd.results27, go_sem, *]) rfl ⟨a1, m, c1, by rw [HBV.out], HM2.out, (HO2.out.setPage HZ.out 0 _).setPage (set_block HZ.out 0 _) 1 _, ((below_drew HB.out).setCell (p := ⟨B6, 0, none⟩) HLO.out _).setCell (p := ⟨B6, 1, none⟩) HLO.out _⟩
end Go.Proofs.YtefgmlmhdjckaaaDoor

/- What the document's own Put answers, in one word; what page.Put answers, in the same words. -/
namespace Go.Proofs.YtefgmlmhdjckaaaDoor
open Go.RowKit
set_option linter.unusedVariables false

theorem rput_some (lsn : Int) (ao : Option Addr) (n c : Nat) (es : List (Int × Int)) (key v : Int) (w : World) (h : EntRow w ao es) (hu : Up es) (hn : es.length = n) (hn9 : n ≤ 100) (hroom : hasE es key = true ∨ n < 20) :
    Calls Tryd.prog 26 #[pageV lsn ao n c, .int .i64 key, .int .i64 v] w fun r w' => ∃ ao' m c', r = .returned (.tuple #[pageV lsn ao' m c', .bool true]) ∧ (insE key v es).length = m ∧ OwnE w' w.heap.size ao' c' (insE key v es) ∧ Below w.heap.size w w' := by
  cases hh : hasE es key with
  | true => exact rput_has lsn ao n c es key v w h hu hn hn9 hh
  | false =>
    rw [hh] at hroom
    rcases hroom with h1 | h1
    · cases h1
    · exact rput_room lsn ao n c es key v w h hu hn hn9 hh h1
/-- What a Put answers: the page, and whether there was room. -/
def canPut (es : List (Int × Int)) (key : Int) : Bool := hasE es key || decide (es.length < 20)
def putL (lsn : Int) (es : List (Int × Int)) (key : Int) : Int := if canPut es key = true then lsn else 0
def putE (es : List (Int × Int)) (key v : Int) : List (Int × Int) := if canPut es key = true then insE key v es else []
/-- The answer of a Put, by the code or the document. -/
def PutPost (w : World) (lsn : Int) (es : List (Int × Int)) (key v : Int) (r : Ending) (w' : World) : Prop := ∃ ao' m c', r = .returned (.tuple #[pageV (putL lsn es key) ao' m c', .bool (canPut es key)]) ∧ (putE es key v).length = m ∧ OwnE w' w.heap.size ao' c' (putE es key v) ∧ Below w.heap.size w w'
theorem rput_any (lsn : Int) (ao : Option Addr) (n c : Nat) (es : List (Int × Int)) (key v : Int) (w : World) (h : EntRow w ao es) (hu : Up es) (hn : es.length = n) (hn9 : n ≤ 100) :
    Calls Tryd.prog 26 #[pageV lsn ao n c, .int .i64 key, .int .i64 v] w (PutPost w lsn es key v) := by
  unfold PutPost putL putE
  cases hh : canPut es key with
  | true =>
    rw [if_pos rfl, if_pos rfl]
    refine rput_some lsn ao n c es key v w h hu hn hn9 ?_
    unfold canPut at hh
    rw [Bool.or_eq_true, decide_eq_true_eq, hn] at hh
    exact hh
  | false =>
    rw [if_neg (by simp), if_neg (by simp)]
    unfold canPut at hh
    rw [Bool.or_eq_false_iff, decide_eq_false_iff_not, hn] at hh
    refine (rput_full lsn ao n c es key v w h hn hh.1 (by omega)).mono ?_
    rintro r w' ⟨rfl, hb⟩
    exact ⟨none, 0, 0, rfl, rfl, ownE_nil _ _, hb⟩
theorem pput_any (lsn : Int) (ao : Option Addr) (n c : Nat) (es : List (Int × Int)) (key v : Int) (w : World) (h : EntRow w ao es) (hu : Up es) (hn : es.length = n) :
    Calls Tryd.prog 25 #[pageV lsn ao n c, .int .i64 key, .int .i64 v] w (PutPost w lsn es key v) := by
  unfold PutPost putL putE canPut
  have hl := len_ins es hu key v
  cases hh : hasE es key with
  | true =>
    rw [Bool.true_or, if_pos rfl, if_pos rfl]
    rw [hh, if_pos rfl, hn] at hl
    refine (put_yes lsn ao n c es key v w h hu hn hh).mono ?_
    rintro r w' ⟨a, d, rfl, ho, hb⟩
    exact ⟨a, n, d, rfl, by omega, ho, hb⟩
  | false =>
    rw [hh, if_neg (by simp), hn] at hl
    by_cases h20 : n < 20
    · rw [Bool.false_or, hn, decide_eq_true h20, if_pos rfl, if_pos rfl]
      refine (put_new lsn ao n c es key v w h hu hn hh h20).mono ?_
      rintro r w' ⟨a, d, rfl, ho, hb⟩
      exact ⟨a, n + 1, d, rfl, by omega, ho, hb⟩
    · rw [Bool.false_or, hn, decide_eq_false h20, if_neg (by simp), if_neg (by simp)]
      refine (put_full lsn ao n c es key v w h hn hh (by omega)).mono ?_
      rintro r w' ⟨rfl, hb⟩
      exact ⟨none, 0, 0, rfl, rfl, ownE_nil _ _, hb⟩
end Go.Proofs.YtefgmlmhdjckaaaDoor
