/- Lemmas and contracts that the law stands on, joined: PgCopy, PgFind, PgRefB. -/
import Derived.Test.YtdijgpkcolpfoaaDoorJoin10
import Derived.Test.YtdijgpkcolpfoaaDoorJoin17
import Derived.Test.YtdijgpkcolpfoaaDoorJoin9
import Derived.Deep.RegionHeld3
import Derived.Deep.Cut
import Derived.Test.YtdijgpkcolpfoaaDoorJoin14
import Derived.Test.YtdijgpkcolpfoaaDoorJoin15
/- What phoenixref.Entries, phoenixref.Page (copies, in new memory) and slices.Clone answer. -/
namespace Go.Proofs.YtdijgpkcolpfoaaDoor
open Go.RowKit
set_option linter.unusedVariables false

/-- A page in memory: its block. -/
def PBlk (w : World) (P : Nat) (lsn : Int) (ao : Option Addr) (n c : Nat) : Prop := w.heap[P]? = some (.cells #[.int .i64 lsn, .slice ao n c] 24 (0, 0))
theorem PBlk.c0 {w : World} {P : Nat} {lsn : Int} {ao : Option Addr} {n c : Nat} (h : PBlk w P lsn ao n c) : w.cell? ⟨P, 0, none⟩ = some (.int .i64 lsn) := (cell_row h 0).trans rfl
theorem PBlk.c1 {w : World} {P : Nat} {lsn : Int} {ao : Option Addr} {n c : Nat} (h : PBlk w P lsn ao n c) : w.cell? ⟨P, 1, none⟩ = some (.slice ao n c) := (cell_row h 1).trans rfl
theorem PBlk.fz {w : World} {P : Nat} {lsn : Int} {ao : Option Addr} {n c : Nat} (h : PBlk w P lsn ao n c) (i : Nat) : w.frozen? ⟨P, i, none⟩ = false := by unfold PBlk at h; simp [World.frozen?, h]
theorem PBlk.lt {w : World} {P : Nat} {lsn : Int} {ao : Option Addr} {n c : Nat} (h : PBlk w P lsn ao n c) : P < w.heap.size := lt_of_block h
theorem PBlk.below {w w' : World} {B P : Nat} {lsn : Int} {ao : Option Addr} {n c : Nat} (h : PBlk w P lsn ao n c) (hb : Below B w w') (hP : P < B) : PBlk w' P lsn ao n c := (hb.block P hP).trans h
theorem PBlk.step {w w' : World} {P : Nat} {lsn : Int} {ao : Option Addr} {n c : Nat} (h : PBlk w P lsn ao n c) (hb : Below w.heap.size w w') : PBlk w' P lsn ao n c := h.below hb h.lt
theorem pblk_new (w : World) (lsn : Int) (ao : Option Addr) (n c : Nat) : PBlk (w.alloc (pageBlock lsn ao n c)) w.heap.size lsn ao n c := heap_alloc_new _ _
theorem PBlk.put {w : World} {P : Nat} {lsn : Int} {ao : Option Addr} {n c : Nat} (h : PBlk w P lsn ao n c) (l2 : Int) (bo : Option Addr) (m d : Nat) : PBlk ((w.setCell ⟨P, 0, none⟩ (.int .i64 l2)).setCell ⟨P, 1, none⟩ (.slice bo m d)) P l2 bo m d := by
  have h1 := set_block h 0 (.int .i64 l2)
  have h2 := set_block h1 1 (.slice bo m d)
  exact h2
theorem PBlk.putL {w : World} {P : Nat} {lsn : Int} {ao : Option Addr} {n c : Nat} (h : PBlk w P lsn ao n c) (l2 : Int) : PBlk (w.setCell ⟨P, 0, none⟩ (.int .i64 l2)) P l2 ao n c := set_block h 0 (.int .i64 l2)
theorem PBlk.far {w : World} {P : Nat} {lsn : Int} {ao : Option Addr} {n c : Nat} (h : PBlk w P lsn ao n c) {Q : Nat} (hq : Q ≠ P) (i : Nat) (v : Value) : PBlk (w.setCell ⟨Q, i, none⟩ v) P lsn ao n c := by unfold PBlk; rw [Below.heap_setCell _ _ _ _ hq.symm]; exact h
theorem EntRow.apart {w : World} {b off P : Nat} {es : List (Int × Int)} {l0 : Int} {a0 : Option Addr} {n0 d0 : Nat} (hz : PBlk w P l0 a0 n0 d0) (hp : 0 < es.length) (hc : ∀ i e, es[i]? = some e → w.cell? ⟨b, off + i * 2, none⟩ = some (.int .i64 e.1) ∧ w.cell? ⟨b, off + i * 2 + 1, none⟩ = some (.int .i64 e.2)) : b ≠ P := by
  rintro rfl
  have h1 := (hc 0 _ (List.getElem?_eq_getElem hp)).2
  rw [show off + 0 * 2 + 1 = off + 1 by omega, cell_row hz] at h1
  cases off with
  | zero => simp at h1
  | succ off => simp at h1
theorem EntRow.set {w : World} {ao : Option Addr} {es : List (Int × Int)} {P : Nat} {l0 : Int} {a0 : Option Addr} {n0 d0 : Nat} (hz : PBlk w P l0 a0 n0 d0) (h : EntRow w ao es) (o : Nat) (v : Value) : EntRow (w.setCell ⟨P, o, none⟩ v) ao es := by
  refine ⟨h.1, fun hp => ?_⟩
  obtain ⟨b, off, e, hlt, hc⟩ := h.2 hp
  have hne := EntRow.apart hz hp hc
  refine ⟨b, off, e, by simp [World.setCell]; exact hlt, fun i x hi => ?_⟩
  obtain ⟨c1, c2⟩ := hc i x hi
  rw [World.cell?_setCell_other _ _ _ _ (by intro e'; injection e' with e1 _; exact hne e1.symm), World.cell?_setCell_other _ _ _ _ (by intro e'; injection e' with e1 _; exact hne e1.symm)]
  exact ⟨c1, c2⟩
end Go.Proofs.YtdijgpkcolpfoaaDoor

/- What slices.IndexFunc, page.find, page.place, page.Get and the document's own Find answer. -/
namespace Go.Proofs.YtdijgpkcolpfoaaDoor
open Go.RowKit
set_option linter.unusedVariables false

/-- r is the place of the first entry of which p holds, or -1. -/
def IdxAt (p : Int × Int → Bool) (es : List (Int × Int)) (r : Int) : Prop := (r = -1 ∧ ∀ e ∈ es, p e = false) ∨ ∃ (k : Nat) (e : Int × Int), r = k ∧ es[k]? = some e ∧ p e = true ∧ ∀ x ∈ es.take k, p x = false
theorem IdxAt.hit {p : Int × Int → Bool} {es : List (Int × Int)} {r : Int} (h : IdxAt p es r) {k : Nat} {e : Int × Int} (he : es[k]? = some e) (hp : p e = true) (ht : ∀ x ∈ es.take k, p x = false) : r = k := by
  rcases h with ⟨_, h⟩ | ⟨j, x, rfl, hx, hpx, htx⟩
  · have := h e (List.mem_of_getElem? he)
    rw [hp] at this; cases this
  · rcases Nat.lt_trichotomy j k with h1 | h1 | h1
    · have hm : x ∈ es.take k := by
        rw [List.mem_take_iff_getElem]
        obtain ⟨hj, rfl⟩ := List.getElem?_eq_some_iff.1 hx
        exact ⟨j, by omega, rfl⟩
      rw [ht x hm] at hpx; cases hpx
    · rw [h1]
    · have hm : e ∈ es.take j := by
        rw [List.mem_take_iff_getElem]
        obtain ⟨hj, rfl⟩ := List.getElem?_eq_some_iff.1 he
        exact ⟨k, by omega, rfl⟩
      rw [htx e hm] at hp; cases hp
theorem IdxAt.miss {p : Int × Int → Bool} {es : List (Int × Int)} {r : Int} (h : IdxAt p es r) (hn : ∀ e ∈ es, p e = false) : r = -1 := by
  rcases h with ⟨h, _⟩ | ⟨k, e, _, he, hp, _⟩
  · exact h
  · rw [hn e (List.mem_of_getElem? he)] at hp; cases hp
theorem idx_some (p : Int × Int → Bool) : ∀ es : List (Int × Int), ∃ r, IdxAt p es r := by
  intro es
  induction es with
  | nil => exact ⟨-1, .inl ⟨rfl, fun e he => by simp at he⟩⟩
  | cons x s ih =>
    cases hx : p x with
    | true => exact ⟨0, .inr ⟨0, x, rfl, rfl, hx, fun y hy => by simp at hy⟩⟩
    | false =>
      obtain ⟨r, h⟩ := ih
      rcases h with ⟨rfl, h⟩ | ⟨k, e, rfl, he, hp, ht⟩
      · exact ⟨-1, .inl ⟨rfl, fun e he => by
          rcases List.mem_cons.1 he with rfl | h1
          · exact hx
          · exact h e h1⟩⟩
      · refine ⟨((k + 1 : Nat) : Int), .inr ⟨k + 1, e, rfl, by simpa using he, hp, fun y hy => ?_⟩⟩
        rw [List.take_succ_cons] at hy
        rcases List.mem_cons.1 hy with rfl | h1
        · exact hx
        · exact ht y h1
/-- The place of a key that is there. -/
theorem idx_key {es : List (Int × Int)} {key : Int} (h : hasE es key = true) : ∃ (k : Nat) (e : Int × Int), es[k]? = some e ∧ e.1 = key ∧ IdxAt (fun e => decide (e.1 = key)) es k := by
  obtain ⟨r, hr⟩ := idx_some (fun e : Int × Int => decide (e.1 = key)) es
  rcases hr with ⟨rfl, hn⟩ | ⟨k, e, rfl, he, hp, ht⟩
  · exfalso
    have : hasE es key = false := hasE_false.2 fun e he => by simpa using hn e he
    rw [h] at this; cases this
  · exact ⟨k, e, he, by simpa using hp, .inr ⟨k, e, rfl, he, hp, ht⟩⟩
theorem idx_no {es : List (Int × Int)} {key : Int} (h : hasE es key = false) : IdxAt (fun e => decide (e.1 = key)) es (-1) := .inl ⟨rfl, fun e he => by simpa using hasE_false.1 h e he⟩
set_option maxRecDepth 100000 in
set_option maxHeartbeats 2000000 in
theorem index_any (p : Int × Int → Bool) (g : Nat) (lb : Value) (eg : ∀ args w, (callFunc g args).run Tryd.prog w = .ok (.enter g args) w) (ao : Option Addr) (n c : Nat) (es : List (Int × Int)) (r : Int) (w : World) (h : EntRow w ao es) (hn : es.length = n) (hr : IdxAt p es r)
    (hp : ∀ (W : World) (e : Int × Int), Below w.heap.size w W → Calls Tryd.prog g #[entV e, lb] W fun e' w' => e' = .returned (.bool (p e)) ∧ Below w.heap.size w w') :
    Calls Tryd.prog 53 #[.slice ao n c, .func (.func g) #[] #[lb]] w fun e w' => e = .returned (.int .i64 r) ∧ Below w.heap.size w w' := by
  have hs := h.1
  rw [hn] at hs
  have HR := hide h
  have HN := hide hn
  have HI := hide hr
  have HP := hide hp
  clear h hn hr hp
  go_enter Tryd.func53, Tryd.ntmps53
  go_wp2_with fail
  go_loopw [8] (fun i wr => ∃ k : Nat, k ≤ n ∧ i = .int .i64 k ∧ Below w.heap.size w wr ∧ ∀ x ∈ es.take k, p x = false) (fun i _ => n - (intOf i).toNat)
  case atStart => exact ⟨0, by omega, rfl, Below.refl _ _, fun x hx => by simp at hx⟩
  case round =>
    obtain ⟨k, hk, rfl, hbel, hno⟩ := hrel
    have HB := hide hbel
    have HNO := hide hno
    clear hbel hno
    by_cases hlt : k < n
    · have hki : (k : Int) < (n : Int) := by omega
      obtain ⟨e, he⟩ : ∃ e, es[k]? = some e := ⟨es[k]'(by rw [HN.out]; exact hlt), List.getElem?_eq_getElem _⟩
      obtain ⟨b, off, rfl, hlb, hc⟩ := HR.out.2 (by rw [HN.out]; omega)
      obtain ⟨c1, c2⟩ := hc k e he
      have k1 := (HB.out.cell (p := ⟨b, off + k * 2, none⟩) hlb).trans c1
      have k2 := (HB.out.cell (p := ⟨b, off + k * 2 + 1, none⟩) hlb).trans c2
      have HCALL := hide (HP.out wr e HB.out)
      cases hq : p e with
      | true =>
        have HRK := hide (HI.out.hit he hq HNO.out)
        rw [hq] at HCALL
        clear hc c1 c2 he hq hlb
        obtain ⟨x, y⟩ := e
        simp only at k1 k2
        go_wp2_with (go_at_fn g; refine HCALL.out.mono ?_; rintro e w' ⟨rfl, hb'⟩)
        go_ret
        exact ⟨by rw [HRK.out]; rfl, hb'⟩
      | false =>
        have HNX : Hid (∀ x ∈ es.take (k + 1), p x = false) := by
          show ∀ x ∈ es.take (k + 1), p x = false
          intro x hx
          rw [take_succ_at he] at hx
          rcases List.mem_append.1 hx with h1 | h1
          · exact HNO.out x h1
          · simp at h1; subst h1; exact hq
        rw [hq] at HCALL
        clear hc c1 c2 he hq hlb
        obtain ⟨x, y⟩ := e
        simp only at k1 k2
        go_wp2_with (go_at_fn g; refine HCALL.out.mono ?_; rintro e w' ⟨rfl, hb'⟩)
        go_roundw
        case rel => exact ⟨k + 1, by omega, by go_num, hb', HNX.out⟩
        case measure => simp [intOf]; omega
    · have hki : decide ((k : Int) < (n : Int)) = false := by simp; omega
      have hkn : k = n := by omega
      subst hkn
      have HRM : Hid (r = -1) := HI.out.miss fun e he => HNO.out e (by rw [List.take_of_length_le (by rw [HN.out]; exact Nat.le_refl _)]; exact he)
      go_wp2_with fail
      go_ret
      exact ⟨by rw [HRM.out]; rfl, HB.out⟩
theorem enters54 : ∀ args w, (callFunc 54 args).run Tryd.prog w = .ok (.enter 54 args) w := enters_of Tryd.func54 (by kernel_rfl) rfl
theorem enters57 : ∀ args w, (callFunc 57 args).run Tryd.prog w = .ok (.enter 57 args) w := enters_of Tryd.func57 (by kernel_rfl) rfl
set_option maxHeartbeats 1000000 in
theorem pred_find (key : Int) (B : Nat) (w : World) (hB : B < w.heap.size) (hcell : w.cell? ⟨B, 0, none⟩ = some (.int .i64 key)) (W : World) (e : Int × Int) (hb : Below w.heap.size w W) :
    Calls Tryd.prog 54 #[entV e, .pointer (some ⟨B, 0, none⟩)] W fun e' w' => e' = .returned (.bool (decide (e.1 = key))) ∧ Below w.heap.size w w' := by
  have hc : W.cell? ⟨B, 0, none⟩ = some (.int .i64 key) := (hb.cell (p := ⟨B, 0, none⟩) hB).trans hcell
  have hBW : B < W.heap.size := Nat.lt_of_lt_of_le hB hb.size
  have HBX := hide (over hb (below_box W (entBlock e)) hb.size)
  have hne : B ≠ W.heap.size := by omega
  obtain ⟨x, y⟩ := e
  unfold entV
  simp only
  by_cases h : x = key
  · subst h
    go_enter Tryd.func54, Tryd.ntmps54
    go_wp2_with fail
    go_ret
    exact ⟨ret_bool (by simp), HBX.out⟩
  · have h' : (x == key) = false := by simpa using h
    go_enter Tryd.func54, Tryd.ntmps54
    go_wp2_with fail
    go_ret
    exact ⟨ret_bool (by simp [h]), HBX.out⟩
set_option maxHeartbeats 1000000 in
theorem pred_place (key : Int) (B : Nat) (w : World) (hB : B < w.heap.size) (hcell : w.cell? ⟨B, 0, none⟩ = some (.int .i64 key)) (W : World) (e : Int × Int) (hb : Below w.heap.size w W) :
    Calls Tryd.prog 57 #[entV e, .pointer (some ⟨B, 0, none⟩)] W fun e' w' => e' = .returned (.bool (decide (key < e.1))) ∧ Below w.heap.size w w' := by
  have hc : W.cell? ⟨B, 0, none⟩ = some (.int .i64 key) := (hb.cell (p := ⟨B, 0, none⟩) hB).trans hcell
  have hBW : B < W.heap.size := Nat.lt_of_lt_of_le hB hb.size
  have HBX := hide (over hb (below_box W (entBlock e)) hb.size)
  have hne : B ≠ W.heap.size := by omega
  obtain ⟨x, y⟩ := e
  unfold entV
  simp only
  by_cases h : key < x
  · go_enter Tryd.func57, Tryd.ntmps57
    go_wp2_with fail
    go_ret
    exact ⟨ret_bool (by simp [h]), HBX.out⟩
  · have h' : decide (key < x) = false := by simpa using h
    go_enter Tryd.func57, Tryd.ntmps57
    go_wp2_with fail
    go_ret
    exact ⟨ret_bool (by simp), HBX.out⟩
/-- A page and a number, boxed. -/
theorem boxes (w : World) (lsn : Int) (ao : Option Addr) (n c : Nat) (key : Int) {es : List (Int × Int)} (h : EntRow w ao es) : ∃ X, X = (w.alloc (pageBlock lsn ao n c)).alloc (.cells #[.int .i64 key] 3) ∧ PBlk X w.heap.size lsn ao n c ∧ X.cell? ⟨w.heap.size + 1, 0, none⟩ = some (.int .i64 key) ∧ w.heap.size + 1 < X.heap.size ∧ EntRow X ao es ∧ Below w.heap.size w X := by
  have hb1 := below_box w (pageBlock lsn ao n c)
  have hb2 := below_box (w.alloc (pageBlock lsn ao n c)) (.cells #[.int .i64 key] 3)
  have hsz : (w.alloc (pageBlock lsn ao n c)).heap.size = w.heap.size + 1 := by simp
  have hb := over hb1 hb2 hb1.size
  refine ⟨_, rfl, (pblk_new w lsn ao n c).step hb2, ?_, by simp, h.below hb (Nat.le_refl _), hb⟩
  rw [← hsz]
  exact (cell_row (heap_alloc_new _ _) 0).trans rfl
set_option maxRecDepth 100000 in
set_option maxHeartbeats 1000000 in
theorem find_any (lsn : Int) (ao : Option Addr) (n c : Nat) (es : List (Int × Int)) (key r : Int) (w : World) (h : EntRow w ao es) (hn : es.length = n) (hr : IdxAt (fun e => decide (e.1 = key)) es r) :
    Calls Tryd.prog 38 #[pageV lsn ao n c, .int .i64 key] w fun e w' => e = .returned (.int .i64 r) ∧ Below w.heap.size w w' := by
  obtain ⟨X, hX, hp, hc, hlt, hrow, hb⟩ := boxes w lsn ao n c key h
  have HX := hide hX
  have HP := hide hp
  have HB := hide hb
  have HI : Hid (Calls Tryd.prog 53 #[.slice ao n c, .func (.func 54) #[] #[.pointer (some ⟨w.heap.size + 1, 0, none⟩)]] X fun e w' => e = .returned (.int .i64 r) ∧ Below X.heap.size X w') := index_any _ 54 _ enters54 ao n c es r X hrow hn hr (fun W e hb => pred_find key _ X hlt hc W e hb)
  clear hX hp hc hlt hrow hb h hn hr
  unfold pageBlock at HX
  unfold pageV
  go_enter Tryd.func38, Tryd.ntmps38
  go_upto_region 1 with fail
  rw [← HX.out]
  have k1 := HP.out.c1
  go_wp2_with (go_at_call 53; refine HI.out.mono ?_; rintro e w' ⟨rfl, hb'⟩)
  go_ret
  exact ⟨rfl, over HB.out hb' HB.out.size⟩
set_option maxRecDepth 100000 in
set_option maxHeartbeats 1000000 in
/-- The place of a key that isn't there: so many stand ahead of it. -/
theorem place_any (lsn : Int) (ao : Option Addr) (n c : Nat) (es : List (Int × Int)) (key : Int) (q : Nat) (w : World) (h : EntRow w ao es) (hn : es.length = n) (hr : (q = n ∧ IdxAt (fun e => decide (key < e.1)) es (-1)) ∨ IdxAt (fun e => decide (key < e.1)) es q) :
    Calls Tryd.prog 41 #[pageV lsn ao n c, .int .i64 key] w fun e w' => e = .returned (.int .i64 q) ∧ Below w.heap.size w w' := by
  obtain ⟨X, hX, hp, hc, hlt, hrow, hb⟩ := boxes w lsn ao n c key h
  have HX := hide hX
  have HP := hide hp
  have HB := hide hb
  have HI : Hid (∀ r, IdxAt (fun e => decide (key < e.1)) es r → Calls Tryd.prog 53 #[.slice ao n c, .func (.func 57) #[] #[.pointer (some ⟨w.heap.size + 1, 0, none⟩)]] X fun e w' => e = .returned (.int .i64 r) ∧ Below X.heap.size X w') := fun r hr => index_any _ 57 _ enters57 ao n c es r X hrow hn hr (fun W e hb => pred_place key _ X hlt hc W e hb)
  clear hX hp hc hlt hrow hb h hn
  unfold pageBlock at HX
  unfold pageV
  rcases hr with ⟨rfl, hr⟩ | hr
  · have HJ := hide (HI.out _ hr)
    clear HI hr
    go_enter Tryd.func41, Tryd.ntmps41
    go_upto_region 1 with fail
    rw [← HX.out]
    have k1 := HP.out.c1
    go_upto_region 2 with (go_at_call 53; refine HJ.out.mono ?_; rintro e w' ⟨rfl, hb'⟩)
    have k1' := (HP.out.step hb').c1
    go_wp2_with fail
    go_ret
    exact ⟨rfl, over HB.out hb' HB.out.size⟩
  · have HJ := hide (HI.out _ hr)
    clear HI hr
    have hk0 : ¬ ((q : Int) < 0) := by omega
    go_enter Tryd.func41, Tryd.ntmps41
    go_upto_region 1 with fail
    rw [← HX.out]
    have k1 := HP.out.c1
    go_wp2_with (go_at_call 53; refine HJ.out.mono ?_; rintro e w' ⟨rfl, hb'⟩)
    go_ret
    exact ⟨rfl, over HB.out hb' HB.out.size⟩
theorem valE_first {es : List (Int × Int)} {k : Nat} {x y : Int} (he : es[k]? = some (x, y)) (hno : ∀ z ∈ es.take k, z.1 ≠ x) : valE es x = some y := by
  induction es generalizing k with
  | nil => simp at he
  | cons z s ih =>
    rw [valE]
    cases k with
    | zero => simp at he; subst he; simp
    | succ k =>
      rw [if_neg (hno z (by simp))]
      exact ih (by simpa using he) (fun q hq => hno q (by simp [hq]))
/-- The place of a key that isn't there. -/
theorem idx_place {es : List (Int × Int)} {key : Int} (hu : Up es) (hh : hasE es key = false) : ∃ q : Nat, q ≤ es.length ∧ ((q = es.length ∧ IdxAt (fun e => decide (key < e.1)) es (-1)) ∨ IdxAt (fun e => decide (key < e.1)) es q) ∧ ∀ v, insE key v es = es.take q ++ (key, v) :: es.drop q := by
  have hne := hasE_false.1 hh
  obtain ⟨r, hr⟩ := idx_some (fun e : Int × Int => decide (key < e.1)) es
  rcases hr with ⟨rfl, hn⟩ | ⟨k, e, rfl, he, hp, ht⟩
  · refine ⟨es.length, Nat.le_refl _, .inl ⟨rfl, .inl ⟨rfl, hn⟩⟩, fun v => ins_place (Nat.le_refl _) (fun e he => ?_) (fun e he => ?_)⟩
    · rw [List.take_length] at he
      have h1 : ¬ key < e.1 := by simpa using hn e he
      have h2 := hne e he
      omega
    · rw [List.getElem?_eq_none (Nat.le_refl _)] at he; cases he
  · refine ⟨k, Nat.le_of_lt (List.getElem?_eq_some_iff.1 he).1, .inr (.inr ⟨k, e, rfl, he, hp, ht⟩), fun v => ins_place (Nat.le_of_lt (List.getElem?_eq_some_iff.1 he).1) (fun x hx => ?_) (fun x hx => ?_)⟩
    · have h1 : ¬ key < x.1 := by simpa using ht x hx
      have h2 := hne x (List.mem_of_mem_take hx)
      omega
    · rw [he] at hx
      simp only [Option.some.injEq] at hx
      subst hx
      simpa using hp
set_option maxRecDepth 100000 in
set_option maxHeartbeats 1000000 in
theorem get_no (lsn : Int) (ao : Option Addr) (n c : Nat) (es : List (Int × Int)) (key : Int) (w : World) (h : EntRow w ao es) (hn : es.length = n) (hh : valE es key = none) :
    Calls Tryd.prog 19 #[pageV lsn ao n c, .int .i64 key] w fun e w' => e = .returned (.tuple #[.int .i64 0, .bool false]) ∧ Below w.heap.size w w' := by
  have hb := below_box w (pageBlock lsn ao n c)
  have HB := hide hb
  have HF := hide (find_any lsn ao n c es key (-1) _ (h.step hb) hn (idx_no (by unfold hasE; rw [hh]; rfl)))
  have HP := hide (pblk_new w lsn ao n c)
  unfold pageBlock pageV at *
  clear hb h hn hh
  go_enter Tryd.func19, Tryd.ntmps19
  go_wp2_with (go_at_call 38; refine HF.out.mono ?_; rintro e w' ⟨rfl, hb'⟩)
  go_ret2
  exact ⟨rfl, over HB.out hb' HB.out.size⟩
set_option maxRecDepth 100000 in
set_option maxHeartbeats 1000000 in
theorem get_yes (lsn : Int) (ao : Option Addr) (n c : Nat) (es : List (Int × Int)) (key v : Int) (w : World) (h : EntRow w ao es) (hu : Up es) (hn : es.length = n) (hh : valE es key = some v) :
    Calls Tryd.prog 19 #[pageV lsn ao n c, .int .i64 key] w fun e w' => e = .returned (.tuple #[.int .i64 v, .bool true]) ∧ Below w.heap.size w w' := by
  have hb := below_box w (pageBlock lsn ao n c)
  have hs := h.1
  rw [hn] at hs
  have HB := hide hb
  obtain ⟨k, e, he, hk, hi⟩ := idx_key (es := es) (key := key) (by unfold hasE; rw [hh]; rfl)
  have hv : e.2 = v := by
    have := valE_at hu he
    rw [hk, hh] at this
    simpa using this.symm
  have HF := hide (find_any lsn ao n c es key k _ (h.step hb) hn hi)
  have HP := hide (pblk_new w lsn ao n c)
  have hlt : k < n := by rw [← hn]; exact (List.getElem?_eq_some_iff.1 he).1
  have hki : (k : Int) < (n : Int) := by omega
  have hk0 : ¬ ((k : Int) < 0) := by omega
  obtain ⟨b, off, rfl, hlb, hc⟩ := (h.step hb).2 (by omega)
  obtain ⟨c1, c2⟩ := hc k e he
  rw [hv] at c2
  have HC := hide c2
  unfold pageBlock pageV at *
  clear hb h hn hh hc c1 c2 he hk hv hi hu hlb
  go_enter Tryd.func19, Tryd.ntmps19
  go_wp2_with (go_at_call 38; refine HF.out.mono ?_; rintro e w' ⟨rfl, hb'⟩; have k1 := (HP.out.step hb').c1; have k2 := (hb'.cell (World.block_lt_of_cell? _ _ HC.out)).trans HC.out)
  go_ret2
  exact ⟨rfl, over HB.out hb' HB.out.size⟩
set_option maxRecDepth 100000 in
set_option maxHeartbeats 2000000 in
theorem rfind_any (lsn : Int) (ao : Option Addr) (n c : Nat) (es : List (Int × Int)) (key : Int) (w : World) (h : EntRow w ao es) (hn : es.length = n) :
    Calls Tryd.prog 20 #[pageV lsn ao n c, .int .i64 key] w fun e w' => e = .returned (.tuple #[.int .i64 ((valE es key).getD 0), .bool (hasE es key)]) ∧ Below w.heap.size w w' := by
  have hb := below_box w (pageBlock lsn ao n c)
  have hs := h.1
  rw [hn] at hs
  have HB := hide hb
  have HR := hide (h.step hb)
  have HN := hide hn
  have HP := hide (pblk_new w lsn ao n c)
  unfold pageBlock at HB HR HP
  unfold pageV
  clear hb h hn
  obtain ⟨X, hX⟩ : ∃ X, X = w.alloc (.cells #[.int .i64 lsn, .slice ao n c] 24) := ⟨_, rfl⟩
  rw [← hX] at HB HR HP
  have HX := hide hX
  clear hX
  go_enter Tryd.func20, Tryd.ntmps20
  go_upto_region 1 with fail
  rw [← HX.out]
  clear HX
  have k1 := HP.out.c1
  go_wp2_with fail
  go_loopw [6] (fun i wr => ∃ k : Nat, k ≤ n ∧ i = .int .i64 k ∧ wr = X ∧ ∀ x ∈ es.take k, x.1 ≠ key) (fun i _ => n - (intOf i).toNat)
  case atStart => exact ⟨0, by omega, rfl, rfl, fun x hx => by simp at hx⟩
  case round =>
    obtain ⟨k, hk, rfl, rfl, hno⟩ := hrel
    have HNO := hide hno
    clear hno
    by_cases hlt : k < n
    · have hki : (k : Int) < (n : Int) := by omega
      obtain ⟨e, he⟩ : ∃ e, es[k]? = some e := ⟨es[k]'(by rw [HN.out]; exact hlt), List.getElem?_eq_getElem _⟩
      obtain ⟨b, off, rfl, hlb, hc⟩ := HR.out.2 (by rw [HN.out]; omega)
      obtain ⟨c1, c2⟩ := hc k e he
      have HE := hide he
      clear hc hlb he
      obtain ⟨x, y⟩ := e
      simp only at c1 c2
      by_cases hx : x = key
      · have HV : Hid (valE es key = some y) := by
          subst hx
          exact valE_first HE.out HNO.out
        have HH : Hid (hasE es key = true) := by show hasE es key = true; unfold hasE; rw [HV.out]; rfl
        subst hx
        go_wp2_with fail
        go_ret2
        exact ⟨by rw [HV.out, HH.out]; rfl, HB.out⟩
      · have hx' : (x == key) = false := by simpa using hx
        have HNX : Hid (∀ z ∈ es.take (k + 1), z.1 ≠ key) := by
          show ∀ z ∈ es.take (k + 1), z.1 ≠ key
          intro z hz
          rw [take_succ_at HE.out] at hz
          rcases List.mem_append.1 hz with h1 | h1
          · exact HNO.out z h1
          · simp at h1; subst h1; exact hx
        clear hx
        go_wp2_with fail
        go_roundw
        case rel => exact ⟨k + 1, by omega, by go_num, trivial, HNX.out⟩
        case measure => simp [intOf]; omega
    · have hki : decide ((k : Int) < (n : Int)) = false := by simp; omega
      have hkn : k = n := by omega
      subst hkn
      have HV : Hid (valE es key = none) := valE_none.2 fun e he => HNO.out e (by rw [List.take_of_length_le (by rw [HN.out]; exact Nat.le_refl _)]; exact he)
      have HH : Hid (hasE es key = false) := by show hasE es key = false; unfold hasE; rw [HV.out]; rfl
      go_wp2_with fail
      go_ret2
      exact ⟨by rw [HV.out, HH.out]; rfl, HB.out⟩
end Go.Proofs.YtdijgpkcolpfoaaDoor

/- What the document's own Bytes of a page answers, of one that may be. -/
namespace Go.Proofs.YtdijgpkcolpfoaaDoor
open Go.RowKit
set_option linter.unusedVariables false

theorem zero_256 : List.replicate 256 (0 : Int) = page0 := rfl
set_option maxRecDepth 100000 in
set_option maxHeartbeats 4000000 in
theorem rpb_ok (lsn : Int) (ao : Option Addr) (n c : Nat) (es : List (Int × Int)) (w : World) (h : EntRow w ao es) (hn : es.length = n) (hg : okP lsn es = true) : Calls Tryd.prog 13 #[pageV lsn ao n c] w fun e w' => ∃ g, e = .returned (.slice (some ⟨g, 0, none⟩) 256 256) ∧ w.heap.size ≤ g ∧ Own w' g (some ⟨g, 0, none⟩) 256 (pageB lsn es) ∧ Below w.heap.size w w' := by
  obtain ⟨i0, hi, hz0, hz1, hz2⟩ := info_parts Tryd.info5
  have ho := (okP_iff lsn es).1 hg
  have hl0 := ho.l0
  have hl1 := ho.l1
  have hn20 : n ≤ 20 := by rw [← hn]; exact ho.many
  have HRS := hide (rise_bd es 0 ho.rise)
  have hbx := below_box w (pageBlock lsn ao n c)
  have HB := hide hbx
  have HR := hide (h.step hbx)
  have HP := hide (pblk_new w lsn ao n c)
  have HN := hide hn
  have HPB : Hid (pageB lsn es = entUp (page2 lsn n) es n) := by show _ = _; rw [← hn]; rfl
  unfold pageBlock at HB HR HP
  obtain ⟨X, hX⟩ : ∃ X, X = w.alloc (.cells #[.int .i64 lsn, .slice ao n c] 24) := ⟨_, rfl⟩
  rw [← hX] at HB HR HP
  have HX := hide hX
  obtain ⟨B, hB⟩ : ∃ B, B = w.heap.size := ⟨_, rfl⟩
  have HBE := hide hB
  rw [← hB] at HP
  clear h hn hg ho hbx hX hB
  unfold pageV
  go_enter Tryd.func13, Tryd.ntmps13
  go_upto_region 1 with fail
  rw [← HX.out, ← HBE.out]
  clear HX
  go_upto_region 2 with (at_make; refine wpList_make_full X rfl (.const (.int .i64 256)) (.const (.int .i64 256)) 26 rfl X.heap.size 5 i0 (.int .u8 0) 1 Tryd.underlying26 hi hz0 hz1 .i64 .i64 256 256 256 rfl rfl rfl rfl (by rw [hz2]; omega) (by unfold maxLen; omega) (Nat.le_refl _) ?_; intro w1 hown hgr; have hb1 : Below X.heap.size X w1 := (Below.refl _ _).grown hgr (Nat.le_refl _) (by simp); have HO := hide (own_made hown (by omega)); have HP1 := hide (HP.out.step hb1); have HR1 := hide (HR.out.step hb1); have HB1 := hide (over HB.out hb1 HB.out.size); clear hown hgr hb1)
  rw [zero_256] at HO
  clear HP HR HB
  have k0 := HP1.out.c0
  go_wp2_with fail
  clear k0
  refine (refPut_len 256 256 _ page0 _ _ lsn _ HO.out.row length_page0 (by omega) (by omega) hl0 (by omega)).mono ?_
  rintro e w3 ⟨rfl, hown, hb⟩
  replace HO := hide hown
  replace HP1 := hide (HP1.out.step hb)
  replace HR1 := hide (HR1.out.step hb)
  replace HB1 := hide (over HB1.out hb HB1.out.size)
  clear hown hb
  have k1 := HP1.out.c1
  go_wp2_with fail
  clear k1
  refine (refPut_len 256 256 _ (page1 lsn) _ _ (n : Int) _ HO.out.row (length_page1 lsn) (by omega) (by omega) (by omega) (by omega)).mono ?_
  rintro e w4 ⟨rfl, hown, hb⟩
  replace HO := hide hown
  replace HP1 := hide (HP1.out.step hb)
  replace HR1 := hide (HR1.out.step hb)
  have HGW := hide HB1.out.size
  replace HB1 := hide (over HB1.out hb HB1.out.size)
  clear hown hb
  obtain ⟨W4, hW4⟩ : ∃ W4, W4 = w3.heap.size := ⟨_, rfl⟩
  rw [← hW4] at HO HGW ⊢
  clear hW4
  go_wp2_with fail
  go_loopw [3, 4] (fun v i wr => ∃ (k g : Nat), k ≤ n ∧ i = .int .i64 k ∧ v = .slice (some ⟨g, 0, none⟩) 256 256 ∧ w.heap.size ≤ g ∧ Own wr g (some ⟨g, 0, none⟩) 256 (entUp (page2 lsn n) es k) ∧ EntRow wr ao es ∧ PBlk wr B lsn ao n c ∧ Below w.heap.size w wr) (fun _ i _ => n - (intOf i).toNat)
  case atStart => exact ⟨0, W4, by omega, rfl, rfl, HGW.out, HO.out, HR1.out, HP1.out, HB1.out⟩
  case round =>
    clear HO HR1 HB1 HGW HP1
    obtain ⟨k, g, hk, rfl, rfl, hgw, hown, hrow, hp, hbel⟩ := hrel
    have HO := hide hown
    have HR := hide hrow
    have HP := hide hp
    have HB := hide hbel
    have HGW := hide hgw
    clear hown hrow hbel hgw hp
    have k1 := HP.out.c1
    by_cases hlt : k < n
    · have hki : (k : Int) < (n : Int) := by omega
      obtain ⟨e, he⟩ : ∃ e, es[k]? = some e := ⟨es[k]'(by rw [HN.out]; exact hlt), List.getElem?_eq_getElem _⟩
      have hxb := HRS.out e (List.mem_of_getElem? he)
      have hat := ent_at he
      obtain ⟨x0, y0⟩ := e
      simp only at hxb
      obtain ⟨hx0, hx1⟩ := hxb
      have HU : Hid (∀ wp C D ao, Own wp C ao D (putB (putB (entUp (page2 lsn n) es k) (16 + 12 * (k : Int)) x0 (widthB 4).toNat) (20 + 12 * (k : Int)) (u64 y0) (widthB 8).toNat) → Own wp C ao D (entUp (page2 lsn n) es (k + 1))) := by
        intro wp C D ao h
        rw [entUp, hat]
        rw [show (16 + 12 * (k : Int)) = 16 + (k : Int) * 12 by omega, show (20 + 12 * (k : Int)) = 16 + (k : Int) * 12 + 4 by omega] at h
        exact h
      obtain ⟨b, off, rfl, hlb, hc⟩ := HR.out.2 (by rw [HN.out]; omega)
      obtain ⟨c1, c2⟩ := hc k (x0, y0) he
      simp only at c1 c2
      have HC2 := hide c2
      clear hc he hat hlb c2
      go_wp2_with fail
      clear c1 k1
      refine (refPut_len 256 256 _ (entUp (page2 lsn n) es k) _ _ x0 _ HO.out.row (by rw [length_entUp, length_page2]) (by omega) (by omega) hx0 (by omega)).mono ?_
      rintro e z1 ⟨rfl, hown, hb⟩
      have HO2 := hide hown
      have HR2 := hide (HR.out.step hb)
      have HP2 := hide (HP.out.step hb)
      have HB2 := hide (over HB.out hb HB.out.size)
      have c2 := (hb.cell (World.block_lt_of_cell? _ _ HC2.out)).trans HC2.out
      have k1 := HP2.out.c1
      clear hown hb HC2
      go_wp2_with fail
      clear c2 k1
      rw [u64_wrap]
      refine (refPut_len 256 256 _ (putB (entUp (page2 lsn n) es k) (16 + 12 * (k : Int)) x0 (widthB 4).toNat) _ _ (u64 y0) _ HO2.out.row (by rw [length_putB, length_entUp, length_page2]) (by omega) (by omega) (u64_bd _).1 (u64_bd _).2).mono ?_
      rintro e z2 ⟨rfl, hown, hb⟩
      have HO3 := hide (HU.out _ _ _ _ hown)
      have HR3 := hide (HR2.out.step hb)
      have HP3 := hide (HP2.out.step hb)
      have HG3 := hide HB2.out.size
      have HB3 := hide (over HB2.out hb HB2.out.size)
      clear hown hb HO2 HR2 HB2 HU HP2
      go_wp2_with fail
      go_roundw
      case rel => exact ⟨k + 1, _, by omega, by go_num, rfl, HG3.out, HO3.out, HR3.out, HP3.out, HB3.out⟩
      case measure => simp [intOf]; omega
    · have hki : decide ((k : Int) < (n : Int)) = false := by simp; omega
      have hkn : k = n := by omega
      subst hkn
      go_wp2_with fail
      go_ret
      exact ⟨g, rfl, HGW.out, by rw [HPB.out]; exact HO.out, HB.out⟩
end Go.Proofs.YtdijgpkcolpfoaaDoor
