/- Lemmas and contracts that the law stands on, joined: Frame, BlockBytes, RecRead, RecGood, RecGood2, RecGood3, RecRefB, RecReadRef, BlockRef, BlockRead, BlockRead2, BlockRef2, RecFirst, BlockFirst, MakeSeq, BlockMake, RecSame, RecSame2, BlockSame, See. -/
import Derived.Test.YtgjhnkadfdcafaaDoorJoin2
import Derived.OpenShut
import Derived.Laws.BytesArg
import Derived.Laws.StructEq
import Derived.Deep.Cut
import Derived.Test.YtgjhnkadfdcafaaDoorJoin1
import Derived.LaidEql
/- How the arguments of a statement read in memory (a list of bytes; numbers within their kinds), and how what was read stays while new memory is made. -/
namespace Go.Proofs.YtgjhnkadfdcafaaDoor
open Go.RowKit
set_option linter.unusedVariables false

/-- A slice of integers that came in: nil; or a row of 'cap' cells, the numbers 'zs', the first 'len' its elements. -/
def IsRow (k : IntKind) (w : World) (a : Option Addr) (len cap : Nat) (zs : List Int) : Prop :=
  (a = none ∧ len = 0 ∧ cap = 0 ∧ zs = []) ∨
  ∃ x, a = some x ∧ len ≤ cap ∧ cap ≤ maxLen ∧ zs.length = cap ∧ (∀ i, i < zs.length → w.cell? (x.add i) = some (.int k (zs.getD i 0))) ∧ ∀ n ∈ zs, (Lit.int k n).wf = true

theorem wf_i64 {x : Int} (h : (Lit.int .i64 x).wf = true) : -9223372036854775808 ≤ x ∧ x ≤ 9223372036854775807 := by
  simp [Lit.wf, IntKind.min, IntKind.max, IntKind.signed, IntKind.bits] at h
  exact ⟨by omega, by omega⟩
theorem wf_u64 {x : Int} (h : (Lit.int .u64 x).wf = true) : 0 ≤ x ∧ x ≤ 18446744073709551615 := by
  simp [Lit.wf, IntKind.min, IntKind.max, IntKind.signed, IntKind.bits] at h
  exact ⟨by omega, by omega⟩
theorem wf_u8 {x : Int} (h : (Lit.int .u8 x).wf = true) : 0 ≤ x ∧ x ≤ 255 := by
  simp [Lit.wf, IntKind.min, IntKind.max, IntKind.signed, IntKind.bits] at h
  exact ⟨by omega, by omega⟩
theorem wf_u32 {x : Int} (h : (Lit.int .u32 x).wf = true) : 0 ≤ x ∧ x ≤ 4294967295 := by
  simp [Lit.wf, IntKind.min, IntKind.max, IntKind.signed, IntKind.bits] at h
  exact ⟨by omega, by omega⟩

theorem getD_take {zs : List Int} {n i : Nat} (h : i < n) : (zs.take n).getD i 0 = zs.getD i 0 := by
  rw [List.getD_eq_getElem?_getD, List.getD_eq_getElem?_getD, List.getElem?_take, if_pos h]

theorem IsRow.part {w : World} {a : Option Addr} {len cap : Nat} {zs : List Int} (h : IsRow .u8 w a len cap zs) (hl : len ≤ 4294967296) : ∃ xs : List Int, xs.length = len ∧ Row w a xs ∧ (a = none → xs = [] ∧ cap = 0) := by
  rcases h with ⟨rfl, rfl, rfl, rfl⟩ | ⟨x, rfl, h1, h2, h3, h4, h5⟩
  · exact ⟨[], rfl, row_nil w, fun _ => ⟨rfl, rfl⟩⟩
  · refine ⟨zs.take len, by simp; omega, ⟨by simp; omega, fun y hy => wf_u8 (h5 y (List.mem_of_mem_take hy)), fun hp => ?_⟩, fun e => by simp at e⟩
    have hlen : (zs.take len).length = len := by simp; omega
    rw [hlen] at hp ⊢
    obtain ⟨b, off, spot⟩ := x
    have hspot : spot = none := by
      have hc := h4 0 (by omega)
      simpa [Addr.add] using World.cell?_spot hc
    subst hspot
    have hb : b < w.heap.size := by
      have hc := h4 0 (by omega)
      exact World.block_lt_of_cell? w _ hc
    refine ⟨b, off, rfl, hb, fun i hi => ?_⟩
    have := h4 i (by omega)
    rw [Addr.add_lit] at this
    rw [this, getD_take hi]

/-- In w, which comes behind w0, the list of bytes at 'ao' still reads as xs; nothing that was there in w0 has turned. -/
def St (w0 w : World) (ao : Option Addr) (xs : List Int) : Prop := Row w ao xs ∧ Below w0.heap.size w0 w
theorem St.refl {w : World} {ao : Option Addr} {xs : List Int} (h : Row w ao xs) : St w w ao xs := ⟨h, Below.refl _ _⟩
theorem St.step {w0 w w' : World} {ao : Option Addr} {xs : List Int} (h : St w0 w ao xs) (hb : Below w.heap.size w w') : St w0 w' ao xs := ⟨h.1.below hb (Nat.le_refl _), over h.2 hb h.2.size⟩
theorem St.drewN {w0 w : World} {ao : Option Addr} {xs : List Int} (h : St w0 w ao xs) (n : Nat) : St w0 (w.drewN n) ao xs := ⟨h.1.drewN n, below_drewN h.2 n⟩
theorem made_cells (n : Nat) : (madeCells (Value.int .u8 0).cells (n * 1)).toList = cellsOf (List.replicate n 0) := by
  have e2 : (Value.int .u8 0).cells = #[Value.int .u8 0] := rfl
  rw [e2, Nat.mul_one, toList_madeCells_one]
  simp [cellsOf]
theorem bytes_rep (n : Nat) : Bytes (List.replicate n 0) := fun x hx => by rw [(List.mem_replicate.1 hx).2]; omega
theorem own_made {w : World} {B : Nat} {v : Option Addr} {n : Nat} (h : w.ownsRow B 5 1 (.slice v n n) n (madeCells (Value.int .u8 0).cells (n * 1)).toList) (hn : n ≤ 4294967296) : Own w B v n (List.replicate n 0) := by
  rw [made_cells] at h
  refine ⟨?_, bytes_rep n, by simpa using hn⟩
  rw [List.length_replicate]
  exact h
theorem zero_rep (n : Nat) : zeroB (List.replicate n 0) = true := by simp [zeroB]
theorem zero_len (ao : Option Addr) (n cap : Nat) (xs : List Int) (w : World) (h : Row w ao xs) (hn : xs.length = n) :
    Calls Tryd.prog 67 #[.slice ao n cap] w fun e w' => e = .returned (.bool (zeroB xs)) ∧ w' = w := by subst hn; exact zero_any ao cap xs w h
theorem get_len (ao : Option Addr) (n cap : Nat) (xs : List Int) (a s : Int) (w : World) (h : Row w ao xs) (hn : xs.length = n) (ha : -9223372036854775808 ≤ a) (ha' : a ≤ 9223372036854775807) :
    Calls Tryd.prog 69 #[.slice ao n cap, .int .i64 a, .int .i64 s] w fun e w' => e = .returned (.int .u64 (getB xs a (widthB s).toNat)) ∧ w' = w := by subst hn; exact get_any ao cap xs a s w h ha ha'
theorem put_len (ao : Option Addr) (l cap : Nat) (xs : List Int) (a s n : Int) (w : World) (h : Row w ao xs) (hl : xs.length = l) (ha : -9223372036854775808 ≤ a) (ha' : a ≤ 9223372036854775807) (hn : 0 ≤ n) (hn' : n ≤ 18446744073709551615) :
    Calls Tryd.prog 62 #[.slice ao l cap, .int .i64 a, .int .i64 s, .int .u64 n] w fun e w' => e = .returned (.slice (some ⟨w.heap.size, 0, none⟩) l l) ∧ Own w' w.heap.size (some ⟨w.heap.size, 0, none⟩) l (putB xs a n (widthB s).toNat) ∧ Below w.heap.size w w' := by subst hl; exact put_any ao cap xs a s n w h ha ha' hn hn'
theorem rows2_nil (w : World) : Rows2 w none [] := ⟨by simp, fun p hp => by simp at hp, fun h => by simp at h⟩
end Go.Proofs.YtgjhnkadfdcafaaDoor

/- What block.Bytes answers: ErrRange of a block that may not be; else its bytes, in new memory; nothing that was there is written. -/
namespace Go.Proofs.YtgjhnkadfdcafaaDoor
open Go.RowKit
set_option linter.unusedVariables false

theorem mark_row (w : World) : Row (w.alloc (.cells #[.int .u8 80, .int .u8 72, .int .u8 88, .int .u8 66] 5)) (some ⟨w.heap.size, 0, none⟩) [80, 72, 88, 66] := by
  refine ⟨by simp, bytes_head0, fun _ => ⟨_, _, rfl, by simp, fun i hi => ?_⟩⟩
  have hi4 : i < 4 := hi
  rw [Nat.zero_add, cell_row (heap_alloc_new w (.cells #[.int .u8 80, .int .u8 72, .int .u8 88, .int .u8 66] 5))]
  rcases (show i = 0 ∨ i = 1 ∨ i = 2 ∨ i = 3 by omega) with rfl | rfl | rfl | rfl <;> rfl
def mark0 : List Int := fillB [80, 72, 88, 66] 16
def mark1 (e : Int) : List Int := putB mark0 4 e 4
theorem length_mark0 : mark0.length = 16 := by rw [mark0, length_fillB]; rfl
theorem length_mark1 (e : Int) : (mark1 e).length = 16 := by rw [mark1, length_putB, length_mark0]
theorem fill_mark (g : Nat) (w : World) (h : Row w (some ⟨g, 0, none⟩) [80, 72, 88, 66]) :
    Calls Tryd.prog 42 #[.slice (some ⟨g, 0, none⟩) 4 4, .int .i64 16] w fun e w' => ∃ g, e = .returned (.slice (some ⟨g, 0, none⟩) 16 16) ∧ Own w' g (some ⟨g, 0, none⟩) 16 mark0 ∧ Below w.heap.size w w' := by
  have h1 := fill_any (some ⟨g, 0, none⟩) 4 [80, 72, 88, 66] 16 w h (by omega)
  rw [show (fillB [80, 72, 88, 66] 16).length = 16 from length_mark0] at h1
  exact h1.mono fun e w' h => ⟨_, h⟩
set_option maxHeartbeats 400000 in
theorem head_any (e n : Int) (w : World) (he0 : 1 ≤ e) (he1 : e ≤ 1073741824) (hn0 : 0 ≤ n) (hn1 : n ≤ 6) :
    Calls Tryd.prog 39 #[.int .i64 e, .int .i64 n] w fun r w' => ∃ g, r = .returned (.slice (some ⟨g, 0, none⟩) 16 16) ∧ w.heap.size ≤ g ∧ Own w' g (some ⟨g, 0, none⟩) 16 (headB e n) ∧ Below w.heap.size w w' := by
  have HR := hide (mark_row w)
  have HB := hide (below_box w (.cells #[.int .u8 80, .int .u8 72, .int .u8 88, .int .u8 66] 5))
  have H1 : Hid (∀ wp B C ao, Own wp B ao C (putB mark0 4 e (widthB 4).toNat) → Own wp B ao C (mark1 e)) := fun _ _ _ _ h => h
  have H2 : Hid (∀ wp B C ao, Own wp B ao C (putB (mark1 e) 8 n (widthB 2).toNat) → Own wp B ao C (headB e n)) := fun _ _ _ _ h => h
  go_enter Tryd.func39, Tryd.ntmps39
  go_wp2_with fail
  refine (fill_mark _ _ HR.out).mono ?_
  rintro r w1 ⟨g1, rfl, hown, hb⟩
  have HO := hide hown
  replace HB := hide (over HB.out hb HB.out.size)
  clear hown hb HR
  go_wp2_with fail
  refine (bytes_len 16 16 _ mark0 _ _ e _ HO.out.row length_mark0 (by omega) (by omega) (by omega) (by omega)).mono ?_
  rintro r w2 ⟨rfl, hown, hb⟩
  replace HO := hide (H1.out _ _ _ _ hown)
  replace HB := hide (over HB.out hb HB.out.size)
  have HS := hide HB.out.size
  clear hown hb
  go_wp2_with fail
  refine (bytes_len 16 16 _ (mark1 e) _ _ n _ HO.out.row (length_mark1 e) (by omega) (by omega) (by omega) (by omega)).mono ?_
  rintro r w3 ⟨rfl, hown, hb⟩
  replace HO := hide (H2.out _ _ _ _ hown)
  replace HB := hide (over HB.out hb HB.out.size)
  clear hown hb
  go_wp2_with fail
  go_ret
  exact ⟨_, rfl, HS.out, HO.out, HB.out⟩
theorem rows_of_two {w : World} {a b : Part} (ha : a.isIn w) (hb : b.isIn w) : Rows2 (w.alloc (.cells #[a.val, b.val] 51)) (some ⟨w.heap.size, 0, none⟩) [a, b] := by
  have hbel := below_box w (.cells #[a.val, b.val] 51)
  refine ⟨by simp, fun p hp => ?_, fun _ => ⟨_, _, rfl, by simp, fun i hi => ?_⟩⟩
  · simp only [List.mem_cons, List.not_mem_nil, or_false] at hp
    rcases hp with rfl | rfl
    · exact ⟨ha.1.below hbel (Nat.le_refl _), ha.2⟩
    · exact ⟨hb.1.below hbel (Nat.le_refl _), hb.2⟩
  · have hi2 : i < 2 := hi
    rw [Nat.zero_add, cell_row (heap_alloc_new w (.cells #[a.val, b.val] 51))]
    rcases (show i = 0 ∨ i = 1 by omega) with rfl | rfl <;> rfl
theorem part_of_own {w : World} {B : Nat} {ao : Option Addr} {c : Nat} {xs : List Int} (h : Own w B ao c xs) : Part.isIn w ⟨ao, c, xs⟩ := by
  refine ⟨h.row, fun e => ?_⟩
  rcases h.le.2 with ⟨_, h2, h3⟩ | ⟨g, hg⟩
  · exact ⟨h2, h3⟩
  · simp only at e; rw [e] at hg; cases hg
/-- Two lists joined, as a call has them. -/
theorem join_two {w : World} {B C : Nat} {ao bo : Option Addr} {c c' n m : Nat} {xs ys : List Int} (N : Nat) (h : Own w B ao c xs) (h' : Own w C bo c' ys) (hn : xs.length = n) (hm : ys.length = m) (hN : n + m = N) (hs : N ≤ 1000) :
    Calls Tryd.prog 41 #[.slice (some ⟨w.heap.size, 0, none⟩) 2 2] (w.alloc (.cells #[.slice ao n c, .slice bo m c'] 51)) fun e w' => ∃ ao c, e = .returned (.slice ao N c) ∧ Own w' w.heap.size ao c (xs ++ ys) ∧ Below w.heap.size w w' := by
  subst hn; subst hm; subst hN
  have e : joinB [⟨ao, c, xs⟩, ⟨bo, c', ys⟩] = xs ++ ys := by simp [joinB]
  have h2 := join_len (some ⟨w.heap.size, 0, none⟩) 2 2 [⟨ao, c, xs⟩, ⟨bo, c', ys⟩] _ (rows_of_two (part_of_own h) (part_of_own h')) rfl (by rw [e, List.length_append]; omega)
  rw [e] at h2
  refine h2.mono ?_
  rintro r w' ⟨ao', c'', rfl, hown, hb⟩
  have hbel := below_box w (.cells #[.slice ao xs.length c, .slice bo ys.length c'] 51)
  refine ⟨ao', c'', by rw [List.length_append], hown.mono hbel.size, over hbel hb hbel.size⟩
theorem fill_256 {w : World} {ao : Option Addr} {m c : Nat} {xs : List Int} (h : Row w ao xs) (hm : xs.length = m) (hs : m ≤ 256) :
    Calls Tryd.prog 42 #[.slice ao m c, .int .i64 256] w fun e w' => ∃ g, e = .returned (.slice (some ⟨g, 0, none⟩) 256 256) ∧ w.heap.size ≤ g ∧ Own w' g (some ⟨g, 0, none⟩) 256 (fillB xs 256) ∧ Below w.heap.size w w' := by
  have h1 := fill_len ao m c xs 256 w h hm (by omega)
  rw [show max (256 : Int).toNat m = 256 by show max 256 m = 256; omega] at h1
  exact h1.mono fun e w' h => ⟨_, h.1, Nat.le_refl _, h.2.1, h.2.2⟩
/-- What block.Bytes answers. -/
def bbPost (e : Int) (rs : List R) (x : Addr) (w : World) (r : Ending) (w' : World) : Prop :=
  ((okB e rs = true ∧ ∃ g, r = .returned (.tuple #[.slice (some ⟨g, 0, none⟩) 256 256, .nilIface]) ∧ w.heap.size ≤ g ∧ Own w' g (some ⟨g, 0, none⟩) 256 (blockB e rs)) ∨ (okB e rs = false ∧ r = .returned (.tuple #[.slice none 0 0, errV x]))) ∧ Below w.heap.size w w'
set_option maxRecDepth 100000 in
set_option maxHeartbeats 4000000 in
theorem bb_out (e : Int) (ao : Option Addr) (n cap : Nat) (w : World) (x : Addr) (hE : w.cell? ⟨1, 0, none⟩ = some (errV x)) (hn : n ≤ 1000) (ho : ¬ (1 ≤ e ∧ e ≤ 1073741824 ∧ 1 ≤ n ∧ n ≤ 6)) :
    Calls Tryd.prog 24 #[.int .i64 e, .slice ao n cap] w fun r w' => r = .returned (.tuple #[.slice none 0 0, errV x]) ∧ Below w.heap.size w w' := by
  unfold errV at *
  have h4 : e < 1 ∨ (1 ≤ e ∧ 1073741824 < e) ∨ (1 ≤ e ∧ e ≤ 1073741824 ∧ n = 0) ∨ (1 ≤ e ∧ e ≤ 1073741824 ∧ 1 ≤ n ∧ 6 < n) := by omega
  clear ho
  rcases h4 with h | ⟨h1, h2⟩ | ⟨h1, h2, rfl⟩ | ⟨h1, h2, h3, h4⟩
  all_goals
    go_enter Tryd.func24, Tryd.ntmps24
    go_wp2_with fail
    go_quiet (fail)
    go_wp2_with fail
    go_ret2
    exact ⟨rfl, below_drewN (Below.refl _ _) _⟩
theorem take_good {rs : List R} {k : Nat} {r : R} (h : ∀ x ∈ rs.take k, goodB x = true) (hr : rs[k]? = some r) (hg : goodB r = true) : ∀ x ∈ rs.take (k + 1), goodB x = true := by
  intro x hx
  rw [List.take_add_one, hr] at hx
  rcases List.mem_append.1 hx with h1 | h1
  · exact h x h1
  · simp at h1; subst h1; exact hg
theorem okB_no {e : Int} {rs : List R} {k : Nat} {r : R} (hr : rs[k]? = some r) (hg : goodB r = false) : okB e rs = false := by
  unfold okB
  rw [Bool.and_eq_false_iff]
  refine .inr ?_
  rw [List.all_eq_false]
  exact ⟨r, List.mem_of_getElem? hr, by rw [hg]; simp⟩
set_option maxRecDepth 100000 in
set_option maxHeartbeats 4000000 in
theorem bb_in (e : Int) (ao : Option Addr) (n cap : Nat) (rs : List R) (w : World) (x : Addr) (hE : w.cell? ⟨1, 0, none⟩ = some (errV x)) (h : RecRow w ao rs) (hn : rs.length = n) (he0 : 1 ≤ e) (he1 : e ≤ 1073741824) (hn0 : 1 ≤ n) (hn1 : n ≤ 6) :
    Calls Tryd.prog 24 #[.int .i64 e, .slice ao n cap] w (bbPost e rs x w) := by
  obtain ⟨b, off, rfl, hc⟩ := h.2 (by omega)
  have HC := hide hc
  have HN := hide hn
  have HE := hide hE
  clear hc hn hE h
  go_enter Tryd.func24, Tryd.ntmps24
  go_wp2_with fail
  refine (head_any e n _ he0 he1 (by omega) (by omega)).mono ?_
  rintro r w1 ⟨g, rfl, hg, hown, hb⟩
  have HO := hide (hown.mono hg)
  have HB := hide hb
  clear hg hown hb
  go_wp2_with fail
  go_loopw [6, 34] (fun v i wr => ∃ k : Nat, k ≤ n ∧ i = .int .i64 k ∧ ∃ ao c m, m = 16 + 40 * k ∧ v = .slice ao m c ∧ Own wr w.heap.size ao c (headB e n ++ recsB (rs.take k)) ∧ Below w.heap.size w wr ∧ ∀ r ∈ rs.take k, goodB r = true) (fun _ i _ => n - (intOf i).toNat)
  case atStart => exact ⟨0, by omega, rfl, _, _, 16, rfl, rfl, by simpa [recsB] using HO.out, HB.out, fun r hr => by simp at hr⟩
  case round =>
    clear HO HB
    obtain ⟨k, hk, rfl, ao, c, m, hm, rfl, hown, hbel, hgood⟩ := hrel
    have HO := hide hown
    have HB := hide hbel
    have HG := hide hgood
    have HM := hide hm
    have hm2 : m ≤ 256 := by omega
    clear hown hbel hgood hm
    by_cases hlt : k < n
    · obtain ⟨r, hr⟩ : ∃ r, rs[k]? = some r := ⟨rs[k]'(by rw [HN.out]; exact hlt), List.getElem?_eq_getElem _⟩
      have HR := hide hr
      have hcr := (HC.out k r hr).of_block (HB.out.block b (HC.out k r hr).lt) HB.out.size
      have hki : (k : Int) < (n : Int) := by omega
      clear hr
      obtain ⟨k0, k1, k2, k3, k4, k5, k6, k7, k8, k9, kl⟩ := hcr
      have HL := hide kl
      clear kl
      have HB1 := hide (below_box wr (recCells r))
      have HB2 := hide (over HB.out HB1.out HB.out.size)
      unfold recCells at HB1 HB2
      cases hgr : goodB r with
      | true =>
        go_wp2_with fail
        refine (recBytes_good r _ x ((HB2.out.cell (World.block_lt_of_cell? w _ HE.out)).trans HE.out) hgr).mono ?_
        rintro r' w2 ⟨g2, rfl, hg2, hown2, hb2⟩
        replace HO := hide ((HO.out.below HB1.out (Nat.le_refl _)).below hb2 (Nat.le_refl _))
        have HO2 := hide hown2
        replace HB := hide (over HB2.out hb2 HB2.out.size)
        clear hg2 hown2 hb2 HB1 HB2 k0 k1 k2 k3 k4 k5 k6 k7 k8 k9
        go_wp2_with fail
        refine (join_two (m + 40) HO.out HO2.out (by rw [List.length_append, length_headB, length_recsB, List.length_take, HN.out, HM.out, Nat.min_eq_left hk]) (length_recB r) rfl (by omega)).mono ?_
        rintro r' w3 ⟨ao3, c3, rfl, hown3, hb3⟩
        have HO3 := hide hown3
        have HS := hide HB.out.size
        replace HB := hide (over HB.out hb3 HB.out.size)
        clear hown3 hb3
        go_wp2_with fail
        go_roundw
        case rel =>
          have hM := HM.out
          refine ⟨k + 1, by omega, by go_num, ao3, c3, m + 40, by omega, rfl, ?_, HB.out, take_good HG.out HR.out hgr⟩
          rw [recsB_snoc rs k r HR.out, ← List.append_assoc]
          exact HO3.out.mono HS.out
        case measure => simp [intOf]; omega
      | false =>
        go_wp2_with fail
        refine (recBytes_bad r _ x ((HB2.out.cell (World.block_lt_of_cell? w _ HE.out)).trans HE.out) hgr).mono ?_
        rintro r' w2 ⟨rfl, hb2⟩
        replace HB := hide (over HB2.out hb2 HB2.out.size)
        clear hb2 HB1 HB2 k0 k1 k2 k3 k4 k5 k6 k7 k8 k9
        unfold errV
        go_wp2_with fail
        go_ret2
        exact ⟨.inr ⟨okB_no HR.out hgr, rfl⟩, HB.out⟩
    · go_wp2_with fail
      refine (fill_256 (m := m) HO.out.row (by rw [List.length_append, length_headB, length_recsB, List.length_take, HN.out, HM.out, Nat.min_eq_left hk]) hm2).mono ?_
      rintro r' w2 ⟨g2, rfl, hg2, hown2, hb2⟩
      have HO2 := hide hown2
      have HS := hide (Nat.le_trans HB.out.size hg2)
      replace HB := hide (over HB.out hb2 HB.out.size)
      clear hown2 hb2 hg2
      go_wp2_with fail
      go_ret2
      have hkn : k = n := by omega
      have hN := HN.out
      have hG := HG.out
      have hO := HO2.out
      rw [hkn, ← hN, List.take_length] at hG hO
      exact ⟨.inl ⟨(okB_iff e rs).2 ⟨⟨he0, he1, by omega, by omega⟩, hG⟩, g2, rfl, HS.out, hO⟩, HB.out⟩
theorem bb_any (e : Int) (ao : Option Addr) (n cap : Nat) (rs : List R) (w : World) (x : Addr) (hE : w.cell? ⟨1, 0, none⟩ = some (errV x)) (h : RecRow w ao rs) (hn : rs.length = n) :
    Calls Tryd.prog 24 #[.int .i64 e, .slice ao n cap] w (bbPost e rs x w) := by
  by_cases ho : 1 ≤ e ∧ e ≤ 1073741824 ∧ 1 ≤ n ∧ n ≤ 6
  · exact bb_in e ao n cap rs w x hE h hn ho.1 ho.2.1 ho.2.2.1 ho.2.2.2
  · refine (bb_out e ao n cap w x hE (by have := h.1; omega) ho).mono fun r w' hh => ⟨.inr ⟨?_, hh.1⟩, hh.2⟩
    unfold okB
    rw [Bool.and_eq_false_iff, hn]
    exact .inl (decide_eq_false ho)
theorem bb_ok {e : Int} {ao : Option Addr} {n cap : Nat} {rs : List R} {w : World} {x : Addr} (hE : w.cell? ⟨1, 0, none⟩ = some (errV x)) (h : RecRow w ao rs) (hn : rs.length = n) (ho : okB e rs = true) :
    Calls Tryd.prog 24 #[.int .i64 e, .slice ao n cap] w fun r w' => ∃ g, r = .returned (.tuple #[.slice (some ⟨g, 0, none⟩) 256 256, .nilIface]) ∧ w.heap.size ≤ g ∧ Own w' g (some ⟨g, 0, none⟩) 256 (blockB e rs) ∧ Below w.heap.size w w' := by
  refine (bb_any e ao n cap rs w x hE h hn).mono ?_
  rintro r w' ⟨⟨_, g, rfl, h1, h2⟩ | ⟨h1, _⟩, hb⟩
  · exact ⟨g, rfl, h1, h2, hb⟩
  · rw [ho] at h1; cases h1
theorem bb_no {e : Int} {ao : Option Addr} {n cap : Nat} {rs : List R} {w : World} {x : Addr} (hE : w.cell? ⟨1, 0, none⟩ = some (errV x)) (h : RecRow w ao rs) (hn : rs.length = n) (ho : okB e rs = false) :
    Calls Tryd.prog 24 #[.int .i64 e, .slice ao n cap] w fun r w' => r = .returned (.tuple #[.slice none 0 0, errV x]) ∧ Below w.heap.size w w' := by
  refine (bb_any e ao n cap rs w x hE h hn).mono ?_
  rintro r w' ⟨⟨h1, _⟩ | ⟨h1, rfl⟩, hb⟩
  · rw [ho] at h1; cases h1
  · exact ⟨rfl, hb⟩
end Go.Proofs.YtgjhnkadfdcafaaDoor

/- What rec.Read and rec.Same answer: the record whose bytes they are, or why there is none; whether two are the same. -/
namespace Go.Proofs.YtgjhnkadfdcafaaDoor
open Go.RowKit
set_option linter.unusedVariables false

theorem str_eq {xs ys : List Int} (hx : Bytes xs) (hy : Bytes ys) : ((strOfNums xs).toList == (strOfNums ys).toList) = sameB xs ys := by
  have hinj : ∀ a b : Int, 0 ≤ a → a ≤ 255 → 0 ≤ b → b ≤ 255 → UInt8.ofNat a.toNat = UInt8.ofNat b.toNat → a = b := by
    intro a b a0 a1 b0 b1 h
    have h2 := congrArg UInt8.toNat h
    simp only [UInt8.toNat_ofNat'] at h2
    omega
  have hmap : ∀ xs ys : List Int, Bytes xs → Bytes ys → (xs.map fun n => UInt8.ofNat n.toNat) = (ys.map fun n => UInt8.ofNat n.toNat) → xs = ys := by
    intro xs
    induction xs with
    | nil => intro ys _ _ h; cases ys with | nil => rfl | cons y ys => simp at h
    | cons x xs ih =>
      intro ys hx hy h
      cases ys with
      | nil => simp at h
      | cons y ys =>
        simp only [List.map_cons, List.cons.injEq] at h
        have h0 := hx x (by simp)
        have h1 := hy y (by simp)
        rw [hinj x y h0.1 h0.2 h1.1 h1.2 h.1, ih ys (fun z hz => hx z (by simp [hz])) (fun z hz => hy z (by simp [hz])) h.2]
  unfold sameB
  rw [ByteArray.toList_eq, ByteArray.toList_eq, strOfNums_data, strOfNums_data]
  by_cases h : xs = ys
  · simp [h]
  · rw [decide_eq_false h, beq_eq_false_iff_ne]
    exact fun e => h (hmap xs ys hx hy e)
set_option maxHeartbeats 400000 in
theorem equal_any (ao : Option Addr) (n cap : Nat) (xs : List Int) (bo : Option Addr) (n' cap' : Nat) (ys : List Int) (w : World) (h : Row w ao xs) (h' : Row w bo ys) (hn : xs.length = n) (hn' : ys.length = n') (h0 : 0 < n) (h0' : 0 < n') :
    Calls Tryd.prog 70 #[.slice ao n cap, .slice bo n' cap'] w fun e w' => e = .returned (.bool (sameB xs ys)) ∧ w' = w := by
  obtain ⟨b, off, rfl, _, hc⟩ := h.2.2 (by omega)
  obtain ⟨b', off', rfl, _, hc'⟩ := h'.2.2 (by omega)
  have k1 := run_convert_bytes_arg (P := Tryd.prog) w 51 5 Tryd.underlying51 Tryd.underlying5 b off n cap xs hn (fun i hi => hc i (by omega)) 9 Tryd.underlying9
  have k2 := run_convert_bytes_arg (P := Tryd.prog) w 51 5 Tryd.underlying51 Tryd.underlying5 b' off' n' cap' ys hn' (fun i hi => hc' i (by omega)) 9 Tryd.underlying9
  have HE := hide (str_eq h.2.1 h'.2.1)
  clear hc hc' h h'
  go_enter Tryd.func70, Tryd.ntmps70
  go_wp2_with fail
  go_ret
  exact ⟨ret_bool HE.out, rfl⟩
theorem and_one (m : Int) (h0 : 0 ≤ m) (h1 : m ≤ 255) : (bits .and .u64 m 1 != 0) = decide (m % 2 = 1) := by
  have hk : ∀ n : Fin 256, (bits .and .u64 ((n : Nat) : Int) 1 != 0) = decide (((n : Nat) : Int) % 2 = 1) := by decide +kernel
  have := hk ⟨m.toNat, by omega⟩
  rwa [show (((⟨m.toNat, by omega⟩ : Fin 256) : Nat) : Int) = m by simp; omega] at this
theorem and_two (m : Int) (h0 : 0 ≤ m) (h1 : m ≤ 255) : (bits .and .u64 m 2 != 0) = decide (m / 2 % 2 = 1) := by
  have hk : ∀ n : Fin 256, (bits .and .u64 ((n : Nat) : Int) 2 != 0) = decide (((n : Nat) : Int) / 2 % 2 = 1) := by decide +kernel
  have := hk ⟨m.toNat, by omega⟩
  rwa [show (((⟨m.toNat, by omega⟩ : Fin 256) : Nat) : Int) = m by simp; omega] at this
theorem i64_wrap (n : Int) (h : 0 ≤ n ∧ n ≤ 18446744073709551615) : wrap64 n = i64 n := by
  unfold wrap64 i64
  split <;> omega
theorem get_at (ao : Option Addr) (n cap : Nat) (xs : List Int) (a s : Int) (w : World) (h : Row w ao xs) (hn : xs.length = n) (ha : -9223372036854775808 ≤ a) (ha' : a ≤ 9223372036854775807) :
    Calls Tryd.prog 69 #[.slice ao n cap, .int .i64 a, .int .i64 s] w fun e w' => e = .returned (.int .u64 (getB xs a (widthB s).toNat)) ∧ w' = w := by subst hn; exact get_any ao cap xs a s w h ha ha'
theorem getB_lt (xs : List Int) (hb : Bytes xs) (a : Int) (k : Nat) : 0 ≤ getB xs a k ∧ getB xs a k < 256 ^ k := num_bd k fun j => hb.byte _
set_option maxHeartbeats 2000000 in
theorem parts_any (ao : Option Addr) (cap : Nat) (xs : List Int) (w : World) (h : Row w ao xs) (hn : xs.length = 40) :
    Calls Tryd.prog 76 #[.slice ao 40 cap] w fun e w' => e = .returned (partsR xs).val ∧ Below w.heap.size w w' := by
  have HP : Hid (∀ g0 g1 g2 g4 g8 g12 g16 g24 g32 : Int, getB xs 0 1 = g0 → getB xs 1 1 = g1 → getB xs 2 2 = g2 → getB xs 4 2 = g4 → getB xs 8 4 = g8 → getB xs 12 4 = g12 → getB xs 16 4 = g16 → getB xs 24 8 = g24 → getB xs 32 8 = g32 → (partsR xs).val = .agg #[.int .i64 g0, .int .i64 g2, .int .i64 g4, .int .i64 g8, .int .i64 g12, .int .i64 g16, .bool (bits .and .u64 g1 1 != 0), .bool (bits .and .u64 g1 2 != 0), .int .i64 (wrap64 g24), .int .i64 (wrap64 g32)]) := by
    intro g0 g1 g2 g4 g8 g12 g16 g24 g32 h0 h1 h2 h4 h8 h12 h16 h24 h32
    have b1 := getB_lt xs h.2.1 1 1
    have b24 := getB_bd xs h.2.1 24 8 (by omega)
    have b32 := getB_bd xs h.2.1 32 8 (by omega)
    rw [h1] at b1
    rw [h24] at b24
    rw [h32] at b32
    unfold partsR R.val
    simp only
    rw [h0, h1, h2, h4, h8, h12, h16, h24, h32, and_one g1 b1.1 (by omega), and_two g1 b1.1 (by omega), i64_wrap g24 b24, i64_wrap g32 b32]
  have HB : Hid (Bytes xs) := h.2.1
  obtain ⟨A, hA⟩ : ∃ A, A = w.alloc (.cells #[.int .i64 0, .int .i64 0, .int .i64 0, .int .i64 0, .int .i64 0, .int .i64 0, .bool false, .bool false, .int .i64 0, .int .i64 0] 31) := ⟨_, rfl⟩
  have HR : Hid (Row A ao xs) := by show Row A ao xs; rw [hA]; exact h.below (below_box _ _) (Nat.le_refl _)
  rw [hA] at HR
  clear hA h
  have q0 := getB_lt xs HB.out 0 1
  have q1 := getB_lt xs HB.out 1 1
  have q2 := getB_lt xs HB.out 2 2
  have q4 := getB_lt xs HB.out 4 2
  have q8 := getB_lt xs HB.out 8 4
  have q12 := getB_lt xs HB.out 12 4
  have q16 := getB_lt xs HB.out 16 4
  have q24 := getB_bd xs HB.out 24 8 (by omega)
  have q32 := getB_bd xs HB.out 32 8 (by omega)
  have H := HP.out _ _ _ _ _ _ _ _ _ rfl rfl rfl rfl rfl rfl rfl rfl rfl
  have HH := hide H
  clear H HP
  obtain ⟨g0, e0⟩ : ∃ g, g = getB xs 0 1 := ⟨_, rfl⟩
  obtain ⟨g1, e1⟩ : ∃ g, g = getB xs 1 1 := ⟨_, rfl⟩
  obtain ⟨g2, e2⟩ : ∃ g, g = getB xs 2 2 := ⟨_, rfl⟩
  obtain ⟨g4, e4⟩ : ∃ g, g = getB xs 4 2 := ⟨_, rfl⟩
  obtain ⟨g8, e8⟩ : ∃ g, g = getB xs 8 4 := ⟨_, rfl⟩
  obtain ⟨g12, e12⟩ : ∃ g, g = getB xs 12 4 := ⟨_, rfl⟩
  obtain ⟨g16, e16⟩ : ∃ g, g = getB xs 16 4 := ⟨_, rfl⟩
  obtain ⟨g24, e24⟩ : ∃ g, g = getB xs 24 8 := ⟨_, rfl⟩
  obtain ⟨g32, e32⟩ : ∃ g, g = getB xs 32 8 := ⟨_, rfl⟩
  rw [← e0, ← e1, ← e2, ← e4, ← e8, ← e12, ← e16, ← e24, ← e32] at HH
  rw [← e0] at q0; rw [← e1] at q1; rw [← e2] at q2; rw [← e4] at q4; rw [← e8] at q8; rw [← e12] at q12; rw [← e16] at q16; rw [← e24] at q24; rw [← e32] at q32
  have E0 : Hid (getB xs 0 (widthB 1).toNat = g0) := e0.symm
  have E1 : Hid (getB xs 1 (widthB 1).toNat = g1) := e1.symm
  have E2 : Hid (getB xs 2 (widthB 2).toNat = g2) := e2.symm
  have E4 : Hid (getB xs 4 (widthB 2).toNat = g4) := e4.symm
  have E8 : Hid (getB xs 8 (widthB 4).toNat = g8) := e8.symm
  have E12 : Hid (getB xs 12 (widthB 4).toNat = g12) := e12.symm
  have E16 : Hid (getB xs 16 (widthB 4).toNat = g16) := e16.symm
  have E24 : Hid (getB xs 24 (widthB 8).toNat = g24) := e24.symm
  have E32 : Hid (getB xs 32 (widthB 8).toNat = g32) := e32.symm
  clear e0 e1 e2 e4 e8 e12 e16 e24 e32
  obtain ⟨q0a, q0b⟩ := q0; obtain ⟨q2a, q2b⟩ := q2; obtain ⟨q4a, q4b⟩ := q4; obtain ⟨q8a, q8b⟩ := q8; obtain ⟨q12a, q12b⟩ := q12; obtain ⟨q16a, q16b⟩ := q16
  have p1 : (256 : Int) ^ 1 = 256 := by decide
  have p2 : (256 : Int) ^ 2 = 65536 := by decide
  have p4 : (256 : Int) ^ 4 = 4294967296 := by decide
  rw [p1] at q0b; rw [p2] at q2b q4b; rw [p4] at q8b q12b q16b
  clear p1 p2 p4 q1 q24 q32
  have HN := hide hn
  clear hn
  go_enter Tryd.func76, Tryd.ntmps76
  go_wp2_with fail
  refine (get_at _ _ _ xs _ _ _ HR.out HN.out (by omega) (by omega)).mono ?_
  rintro e w2 ⟨rfl, rfl⟩
  rw [E1.out]
  go_wp2_with fail
  refine (get_at _ _ _ xs _ _ _ HR.out HN.out (by omega) (by omega)).mono ?_
  rintro e w2 ⟨rfl, rfl⟩
  rw [E0.out]
  go_wp2_with fail
  refine (get_at _ _ _ xs _ _ _ HR.out HN.out (by omega) (by omega)).mono ?_
  rintro e w2 ⟨rfl, rfl⟩
  rw [E2.out]
  go_wp2_with fail
  refine (get_at _ _ _ xs _ _ _ HR.out HN.out (by omega) (by omega)).mono ?_
  rintro e w2 ⟨rfl, rfl⟩
  rw [E4.out]
  go_wp2_with fail
  refine (get_at _ _ _ xs _ _ _ HR.out HN.out (by omega) (by omega)).mono ?_
  rintro e w2 ⟨rfl, rfl⟩
  rw [E8.out]
  go_wp2_with fail
  refine (get_at _ _ _ xs _ _ _ HR.out HN.out (by omega) (by omega)).mono ?_
  rintro e w2 ⟨rfl, rfl⟩
  rw [E12.out]
  go_wp2_with fail
  refine (get_at _ _ _ xs _ _ _ HR.out HN.out (by omega) (by omega)).mono ?_
  rintro e w2 ⟨rfl, rfl⟩
  rw [E16.out]
  go_wp2_with fail
  refine (get_at _ _ _ xs _ _ _ HR.out HN.out (by omega) (by omega)).mono ?_
  rintro e w2 ⟨rfl, rfl⟩
  rw [E24.out]
  go_wp2_with fail
  refine (get_at _ _ _ xs _ _ _ HR.out HN.out (by omega) (by omega)).mono ?_
  rintro e w2 ⟨rfl, rfl⟩
  rw [E32.out]
  go_wp2_with fail
  exact bodyPost_ret (v := .agg #[.int .i64 g0, .int .i64 g2, .int .i64 g4, .int .i64 g8, .int .i64 g12, .int .i64 g16, .bool (bits .and .u64 g1 1 != 0), .bool (bits .and .u64 g1 2 != 0), .int .i64 (wrap64 g24), .int .i64 (wrap64 g32)]) (by simp [results, Tryd.results76, go_sem]) rfl ⟨by rw [HH.out], below_box _ _⟩
/-- The errors that rec.Read can meet: their variables. -/
structure ReadErrs (w : World) (x y z : Addr) : Prop where
  range : w.cell? ⟨1, 0, none⟩ = some (errV x)
  short : w.cell? ⟨3, 0, none⟩ = some (errV y)
  rc : w.cell? ⟨6, 0, none⟩ = some (errV z)
theorem ReadErrs.step {w w' : World} {x y z : Addr} (h : ReadErrs w x y z) (hb : Below w.heap.size w w') : ReadErrs w' x y z :=
  ⟨(hb.cell (World.block_lt_of_cell? w _ h.range)).trans h.range, (hb.cell (World.block_lt_of_cell? w _ h.short)).trans h.short, (hb.cell (World.block_lt_of_cell? w _ h.rc)).trans h.rc⟩
def noRec : R := ⟨0, 0, 0, 0, 0, 0, false, false, 0, 0⟩
set_option maxHeartbeats 1000000 in
theorem read_short (ao : Option Addr) (n cap : Nat) (w : World) {x y z : Addr} (he : ReadErrs w x y z) (hn : n ≠ 40) :
    Calls Tryd.prog 75 #[.slice ao n cap] w fun e w' => e = .returned (.tuple #[noRec.val, errV y]) ∧ Below w.heap.size w w' := by
  have hne : ((n : Int) != 40) = true := by simp; omega
  have hs := World.new_ne w ⟨3, 0, none⟩ he.short
  have hE0 : ∀ X, (w.alloc X).cell? ⟨3, 0, none⟩ = some (errV y) := fun X => (he.step (below_box w X)).short
  clear he hn
  unfold errV at *
  go_enter Tryd.func75, Tryd.ntmps75
  go_wp2_with fail
  go_region
  all_goals
    go_wp2_with fail
    exact bodyPost_ret (v := .tuple #[.agg #[.int .i64 0, .int .i64 0, .int .i64 0, .int .i64 0, .int .i64 0, .int .i64 0, .bool false, .bool false, .int .i64 0, .int .i64 0], .iface 120 (.pointer (some y))]) (by simp [results, Tryd.results75, go_sem]) rfl ⟨rfl, below_drew (below_box _ _)⟩
def zeroCells : Obj := .cells #[.int .i64 0, .int .i64 0, .int .i64 0, .int .i64 0, .int .i64 0, .int .i64 0, .bool false, .bool false, .int .i64 0, .int .i64 0] 31
/-- The block of a record that holds nothing yet. -/
structure ZeroAt (w : World) (B : Nat) : Prop where
  lies : w.heap[B]? = some (.cells #[.int .i64 0, .int .i64 0, .int .i64 0, .int .i64 0, .int .i64 0, .int .i64 0, .bool false, .bool false, .int .i64 0, .int .i64 0] 31 (0, 0))
theorem ZeroAt.below {w w' : World} {B n : Nat} (h : ZeroAt w B) (hb : Below n w w') (hn : w.heap.size ≤ n) : ZeroAt w' B := ⟨by rw [hb.block _ (Nat.lt_of_lt_of_le (lt_of_block h.lies) hn)]; exact h.lies⟩
theorem zero_lies (w : World) : ZeroAt (w.alloc zeroCells) w.heap.size := ⟨by unfold zeroCells; exact heap_alloc_new _ _⟩
theorem frozen_at {w : World} {d : Nat} {c : Array Value} {e : TypeId} (h : w.heap[d]? = some (.cells c e (0, 0))) (o : Nat) : w.frozen? ⟨d, o, none⟩ = false := by
  simp [World.frozen?, h]
theorem below_sets {B : Nat} {a w : World} (h : Below B a w) (v0 v1 v2 v3 v4 v5 v6 v7 v8 v9 : Value) : Below B a ((((((((((w.setCell ⟨B, 0, none⟩ v0).setCell ⟨B, 1, none⟩ v1).setCell ⟨B, 2, none⟩ v2).setCell ⟨B, 3, none⟩ v3).setCell ⟨B, 4, none⟩ v4).setCell ⟨B, 5, none⟩ v5).setCell ⟨B, 6, none⟩ v6).setCell ⟨B, 7, none⟩ v7).setCell ⟨B, 8, none⟩ v8).setCell ⟨B, 9, none⟩ v9) :=
  (((((((((h.setCell (Nat.le_refl _) v0).setCell (Nat.le_refl _) v1).setCell (Nat.le_refl _) v2).setCell (Nat.le_refl _) v3).setCell (Nat.le_refl _) v4).setCell (Nat.le_refl _) v5).setCell (Nat.le_refl _) v6).setCell (Nat.le_refl _) v7).setCell (Nat.le_refl _) v8).setCell (Nat.le_refl _) v9
set_option maxHeartbeats 2000000 in
theorem read_ok (ao : Option Addr) (cap : Nat) (xs : List Int) (w : World) {x y z : Addr} (h : Row w ao xs) (he : ReadErrs w x y z) (hn : xs.length = 40) (hi : isRec xs = true) :
    Calls Tryd.prog 75 #[.slice ao 40 cap] w fun e w' => e = .returned (.tuple #[(partsR xs).val, .nilIface]) ∧ Below w.heap.size w w' := by
  have hg : goodB (partsR xs) = true := by unfold isRec at hi; simp only [Bool.and_eq_true] at hi; exact hi.1
  have hx : recB (partsR xs) = xs := by unfold isRec at hi; simp only [Bool.and_eq_true, decide_eq_true_eq] at hi; exact hi.2
  clear hi
  obtain ⟨r, hr⟩ : ∃ r, r = partsR xs := ⟨_, rfl⟩
  have HR := hide hr
  rw [← hr] at hg hx ⊢
  have HB0 := hide (below_box w (zeroCells))
  have HRow := hide (h.below HB0.out (Nat.le_refl _))
  have HE := hide (he.step HB0.out)
  have HZ := hide (zero_lies w)
  unfold zeroCells at HB0 HRow HE HZ
  have HN := hide hn
  clear h he hn hr
  go_enter Tryd.func75, Tryd.ntmps75
  go_wp2_with fail
  refine (parts_any _ _ xs _ HRow.out HN.out).mono ?_
  rintro e w2 ⟨rfl, hb⟩
  rw [← HR.out]
  replace HRow := hide (HRow.out.below hb (Nat.le_refl _))
  replace HE := hide (HE.out.step hb)
  replace HZ := hide (HZ.out.below hb (Nat.le_refl _))
  replace HB0 := hide (over HB0.out hb HB0.out.size)
  clear hb
  have HB1 := hide (below_box w2 (recCells r))
  replace HRow := hide (HRow.out.below HB1.out (Nat.le_refl _))
  replace HE := hide (HE.out.step HB1.out)
  replace HZ := hide (HZ.out.below HB1.out (Nat.le_refl _))
  have HC := hide (cells10_new w2 r)
  replace HB0 := hide (over HB0.out HB1.out HB0.out.size)
  clear HB1
  unfold R.val
  unfold recCells at HRow HE HZ HC HB0
  go_wp2_with fail
  refine (recBytes_good r _ x HE.out.range hg).mono ?_
  rintro e W ⟨g, rfl, hgb, hown, hb⟩
  rw [hx] at hown
  have HO := hide hown.row
  replace HRow := hide (HRow.out.below hb (Nat.le_refl _))
  replace HZ := hide (HZ.out.below hb (Nat.le_refl _))
  replace HC := hide (HC.out.below hb (Nat.le_refl _))
  replace HB0 := hide (over HB0.out hb HB0.out.size)
  clear hb hown hgb HE
  go_wp2_with fail
  refine (equal_any _ _ _ xs _ _ _ xs _ HO.out HRow.out HN.out HN.out (by omega) (by omega)).mono ?_
  rintro e W' ⟨rfl, rfl⟩
  rw [sameB_true rfl]
  have z0 : W'.cell? ⟨w.heap.size, 0, none⟩ = some (.int .i64 0) := by rw [cell_row HZ.out.lies]; rfl
  have f0 : W'.frozen? ⟨w.heap.size, 0, none⟩ = false := frozen_at HZ.out.lies 0
  have z1 : W'.cell? ⟨w.heap.size, 1, none⟩ = some (.int .i64 0) := by rw [cell_row HZ.out.lies]; rfl
  have f1 : W'.frozen? ⟨w.heap.size, 1, none⟩ = false := frozen_at HZ.out.lies 1
  have z2 : W'.cell? ⟨w.heap.size, 2, none⟩ = some (.int .i64 0) := by rw [cell_row HZ.out.lies]; rfl
  have f2 : W'.frozen? ⟨w.heap.size, 2, none⟩ = false := frozen_at HZ.out.lies 2
  have z3 : W'.cell? ⟨w.heap.size, 3, none⟩ = some (.int .i64 0) := by rw [cell_row HZ.out.lies]; rfl
  have f3 : W'.frozen? ⟨w.heap.size, 3, none⟩ = false := frozen_at HZ.out.lies 3
  have z4 : W'.cell? ⟨w.heap.size, 4, none⟩ = some (.int .i64 0) := by rw [cell_row HZ.out.lies]; rfl
  have f4 : W'.frozen? ⟨w.heap.size, 4, none⟩ = false := frozen_at HZ.out.lies 4
  have z5 : W'.cell? ⟨w.heap.size, 5, none⟩ = some (.int .i64 0) := by rw [cell_row HZ.out.lies]; rfl
  have f5 : W'.frozen? ⟨w.heap.size, 5, none⟩ = false := frozen_at HZ.out.lies 5
  have z6 : W'.cell? ⟨w.heap.size, 6, none⟩ = some (.bool false) := by rw [cell_row HZ.out.lies]; rfl
  have f6 : W'.frozen? ⟨w.heap.size, 6, none⟩ = false := frozen_at HZ.out.lies 6
  have z7 : W'.cell? ⟨w.heap.size, 7, none⟩ = some (.bool false) := by rw [cell_row HZ.out.lies]; rfl
  have f7 : W'.frozen? ⟨w.heap.size, 7, none⟩ = false := frozen_at HZ.out.lies 7
  have z8 : W'.cell? ⟨w.heap.size, 8, none⟩ = some (.int .i64 0) := by rw [cell_row HZ.out.lies]; rfl
  have f8 : W'.frozen? ⟨w.heap.size, 8, none⟩ = false := frozen_at HZ.out.lies 8
  have z9 : W'.cell? ⟨w.heap.size, 9, none⟩ = some (.int .i64 0) := by rw [cell_row HZ.out.lies]; rfl
  have f9 : W'.frozen? ⟨w.heap.size, 9, none⟩ = false := frozen_at HZ.out.lies 9
  obtain ⟨k0, k1, k2, k3, k4, k5, k6, k7, k8, k9, kl⟩ := HC.out
  go_wp2_with fail
  exact bodyPost_ret (v := .tuple #[.agg #[.int .i64 r.kind, .int .i64 r.txn, .int .i64 r.page, .int .i64 r.prev, .int .i64 r.next, .int .i64 r.key, .bool r.had, .bool r.has, .int .i64 r.old, .int .i64 r.new], .nilIface]) (by simp [results, Tryd.results75, go_sem, *]) rfl ⟨rfl, below_sets HB0.out _ _ _ _ _ _ _ _ _ _⟩
set_option maxHeartbeats 2000000 in
theorem read_bad1 (ao : Option Addr) (cap : Nat) (xs : List Int) (w : World) {x y z : Addr} (h : Row w ao xs) (he : ReadErrs w x y z) (hn : xs.length = 40) (hg : goodB (partsR xs) = false) :
    Calls Tryd.prog 75 #[.slice ao 40 cap] w fun e w' => e = .returned (.tuple #[noRec.val, errV z]) ∧ Below w.heap.size w w' := by
  have HLT : Hid (6 < w.heap.size) := World.block_lt_of_cell? w _ he.rc
  obtain ⟨r, hr⟩ : ∃ r, r = partsR xs := ⟨_, rfl⟩
  have HR := hide hr
  rw [← hr] at hg
  have HB0 := hide (below_box w (zeroCells))
  have HRow := hide (h.below HB0.out (Nat.le_refl _))
  have HE := hide (he.step HB0.out)
  have HZ := hide (zero_lies w)
  unfold zeroCells at HB0 HRow HE HZ
  have HN := hide hn
  clear h he hn hr
  go_enter Tryd.func75, Tryd.ntmps75
  go_wp2_with fail
  refine (parts_any _ _ xs _ HRow.out HN.out).mono ?_
  rintro e w2 ⟨rfl, hb⟩
  rw [← HR.out]
  replace HRow := hide (HRow.out.below hb (Nat.le_refl _))
  replace HE := hide (HE.out.step hb)
  replace HZ := hide (HZ.out.below hb (Nat.le_refl _))
  replace HB0 := hide (over HB0.out hb HB0.out.size)
  clear hb
  have HB1 := hide (below_box w2 (recCells r))
  replace HRow := hide (HRow.out.below HB1.out (Nat.le_refl _))
  replace HE := hide (HE.out.step HB1.out)
  replace HZ := hide (HZ.out.below HB1.out (Nat.le_refl _))
  have HC := hide (cells10_new w2 r)
  replace HB0 := hide (over HB0.out HB1.out HB0.out.size)
  clear HB1
  unfold R.val
  unfold recCells at HRow HE HZ HC HB0
  go_wp2_with fail
  refine (recBytes_bad r _ x HE.out.range hg).mono ?_
  rintro e W ⟨rfl, hb⟩
  replace HZ := hide (HZ.out.below hb (Nat.le_refl _))
  replace HE := hide (HE.out.step hb)
  replace HB0 := hide (over HB0.out hb HB0.out.size)
  clear hb HC HRow
  have z0 : W.cell? ⟨w.heap.size, 0, none⟩ = some (.int .i64 0) := by rw [cell_row HZ.out.lies]; rfl
  have f0 : W.frozen? ⟨w.heap.size, 0, none⟩ = false := frozen_at HZ.out.lies 0
  have z1 : W.cell? ⟨w.heap.size, 1, none⟩ = some (.int .i64 0) := by rw [cell_row HZ.out.lies]; rfl
  have f1 : W.frozen? ⟨w.heap.size, 1, none⟩ = false := frozen_at HZ.out.lies 1
  have z2 : W.cell? ⟨w.heap.size, 2, none⟩ = some (.int .i64 0) := by rw [cell_row HZ.out.lies]; rfl
  have f2 : W.frozen? ⟨w.heap.size, 2, none⟩ = false := frozen_at HZ.out.lies 2
  have z3 : W.cell? ⟨w.heap.size, 3, none⟩ = some (.int .i64 0) := by rw [cell_row HZ.out.lies]; rfl
  have f3 : W.frozen? ⟨w.heap.size, 3, none⟩ = false := frozen_at HZ.out.lies 3
  have z4 : W.cell? ⟨w.heap.size, 4, none⟩ = some (.int .i64 0) := by rw [cell_row HZ.out.lies]; rfl
  have f4 : W.frozen? ⟨w.heap.size, 4, none⟩ = false := frozen_at HZ.out.lies 4
  have z5 : W.cell? ⟨w.heap.size, 5, none⟩ = some (.int .i64 0) := by rw [cell_row HZ.out.lies]; rfl
  have f5 : W.frozen? ⟨w.heap.size, 5, none⟩ = false := frozen_at HZ.out.lies 5
  have z6 : W.cell? ⟨w.heap.size, 6, none⟩ = some (.bool false) := by rw [cell_row HZ.out.lies]; rfl
  have f6 : W.frozen? ⟨w.heap.size, 6, none⟩ = false := frozen_at HZ.out.lies 6
  have z7 : W.cell? ⟨w.heap.size, 7, none⟩ = some (.bool false) := by rw [cell_row HZ.out.lies]; rfl
  have f7 : W.frozen? ⟨w.heap.size, 7, none⟩ = false := frozen_at HZ.out.lies 7
  have z8 : W.cell? ⟨w.heap.size, 8, none⟩ = some (.int .i64 0) := by rw [cell_row HZ.out.lies]; rfl
  have f8 : W.frozen? ⟨w.heap.size, 8, none⟩ = false := frozen_at HZ.out.lies 8
  have z9 : W.cell? ⟨w.heap.size, 9, none⟩ = some (.int .i64 0) := by rw [cell_row HZ.out.lies]; rfl
  have f9 : W.frozen? ⟨w.heap.size, 9, none⟩ = false := frozen_at HZ.out.lies 9
  have hEl : 6 ≠ w.heap.size := Nat.ne_of_lt HLT.out
  have hEl' : w.heap.size ≠ 6 := Ne.symm hEl
  have hE := HE.out.rc
  unfold errV at *
  go_wp2_with fail
  go_region
  all_goals
    go_wp2_with fail
    exact bodyPost_ret (v := .tuple #[.agg #[.int .i64 0, .int .i64 0, .int .i64 0, .int .i64 0, .int .i64 0, .int .i64 0, .bool false, .bool false, .int .i64 0, .int .i64 0], .iface 120 (.pointer (some z))]) (by simp [results, Tryd.results75, go_sem, *]) rfl ⟨rfl, below_drew (below_sets HB0.out _ _ _ _ _ _ _ _ _ _)⟩
set_option maxHeartbeats 2000000 in
theorem read_bad2 (ao : Option Addr) (cap : Nat) (xs : List Int) (w : World) {x y z : Addr} (h : Row w ao xs) (he : ReadErrs w x y z) (hn : xs.length = 40) (hg : goodB (partsR xs) = true) (hx : sameB (recB (partsR xs)) xs = false) :
    Calls Tryd.prog 75 #[.slice ao 40 cap] w fun e w' => e = .returned (.tuple #[noRec.val, errV z]) ∧ Below w.heap.size w w' := by
  have HLT : Hid (6 < w.heap.size) := World.block_lt_of_cell? w _ he.rc
  obtain ⟨r, hr⟩ : ∃ r, r = partsR xs := ⟨_, rfl⟩
  have HR := hide hr
  rw [← hr] at hg hx
  have HB0 := hide (below_box w (zeroCells))
  have HRow := hide (h.below HB0.out (Nat.le_refl _))
  have HE := hide (he.step HB0.out)
  have HZ := hide (zero_lies w)
  unfold zeroCells at HB0 HRow HE HZ
  have HN := hide hn
  clear h he hn hr
  go_enter Tryd.func75, Tryd.ntmps75
  go_wp2_with fail
  refine (parts_any _ _ xs _ HRow.out HN.out).mono ?_
  rintro e w2 ⟨rfl, hb⟩
  rw [← HR.out]
  replace HRow := hide (HRow.out.below hb (Nat.le_refl _))
  replace HE := hide (HE.out.step hb)
  replace HZ := hide (HZ.out.below hb (Nat.le_refl _))
  replace HB0 := hide (over HB0.out hb HB0.out.size)
  clear hb
  have HB1 := hide (below_box w2 (recCells r))
  replace HRow := hide (HRow.out.below HB1.out (Nat.le_refl _))
  replace HE := hide (HE.out.step HB1.out)
  replace HZ := hide (HZ.out.below HB1.out (Nat.le_refl _))
  have HC := hide (cells10_new w2 r)
  replace HB0 := hide (over HB0.out HB1.out HB0.out.size)
  clear HB1
  unfold R.val
  unfold recCells at HRow HE HZ HC HB0
  go_wp2_with fail
  refine (recBytes_good r _ x HE.out.range hg).mono ?_
  rintro e W ⟨g, rfl, hgb, hown, hb⟩
  have HO := hide hown.row
  replace HRow := hide (HRow.out.below hb (Nat.le_refl _))
  replace HZ := hide (HZ.out.below hb (Nat.le_refl _))
  replace HE := hide (HE.out.step hb)
  replace HB0 := hide (over HB0.out hb HB0.out.size)
  clear hb hown hgb HC
  go_wp2_with fail
  refine (equal_any _ _ _ (recB r) _ _ _ xs _ HO.out HRow.out (length_recB r) HN.out (by omega) (by omega)).mono ?_
  rintro e W' ⟨rfl, rfl⟩
  rw [hx]
  have z0 : W'.cell? ⟨w.heap.size, 0, none⟩ = some (.int .i64 0) := by rw [cell_row HZ.out.lies]; rfl
  have f0 : W'.frozen? ⟨w.heap.size, 0, none⟩ = false := frozen_at HZ.out.lies 0
  have z1 : W'.cell? ⟨w.heap.size, 1, none⟩ = some (.int .i64 0) := by rw [cell_row HZ.out.lies]; rfl
  have f1 : W'.frozen? ⟨w.heap.size, 1, none⟩ = false := frozen_at HZ.out.lies 1
  have z2 : W'.cell? ⟨w.heap.size, 2, none⟩ = some (.int .i64 0) := by rw [cell_row HZ.out.lies]; rfl
  have f2 : W'.frozen? ⟨w.heap.size, 2, none⟩ = false := frozen_at HZ.out.lies 2
  have z3 : W'.cell? ⟨w.heap.size, 3, none⟩ = some (.int .i64 0) := by rw [cell_row HZ.out.lies]; rfl
  have f3 : W'.frozen? ⟨w.heap.size, 3, none⟩ = false := frozen_at HZ.out.lies 3
  have z4 : W'.cell? ⟨w.heap.size, 4, none⟩ = some (.int .i64 0) := by rw [cell_row HZ.out.lies]; rfl
  have f4 : W'.frozen? ⟨w.heap.size, 4, none⟩ = false := frozen_at HZ.out.lies 4
  have z5 : W'.cell? ⟨w.heap.size, 5, none⟩ = some (.int .i64 0) := by rw [cell_row HZ.out.lies]; rfl
  have f5 : W'.frozen? ⟨w.heap.size, 5, none⟩ = false := frozen_at HZ.out.lies 5
  have z6 : W'.cell? ⟨w.heap.size, 6, none⟩ = some (.bool false) := by rw [cell_row HZ.out.lies]; rfl
  have f6 : W'.frozen? ⟨w.heap.size, 6, none⟩ = false := frozen_at HZ.out.lies 6
  have z7 : W'.cell? ⟨w.heap.size, 7, none⟩ = some (.bool false) := by rw [cell_row HZ.out.lies]; rfl
  have f7 : W'.frozen? ⟨w.heap.size, 7, none⟩ = false := frozen_at HZ.out.lies 7
  have z8 : W'.cell? ⟨w.heap.size, 8, none⟩ = some (.int .i64 0) := by rw [cell_row HZ.out.lies]; rfl
  have f8 : W'.frozen? ⟨w.heap.size, 8, none⟩ = false := frozen_at HZ.out.lies 8
  have z9 : W'.cell? ⟨w.heap.size, 9, none⟩ = some (.int .i64 0) := by rw [cell_row HZ.out.lies]; rfl
  have f9 : W'.frozen? ⟨w.heap.size, 9, none⟩ = false := frozen_at HZ.out.lies 9
  have hEl : 6 ≠ w.heap.size := Nat.ne_of_lt HLT.out
  have hEl' : w.heap.size ≠ 6 := Ne.symm hEl
  have hE := HE.out.rc
  unfold errV at *
  go_wp2_with fail
  go_region
  all_goals
    go_wp2_with fail
    exact bodyPost_ret (v := .tuple #[.agg #[.int .i64 0, .int .i64 0, .int .i64 0, .int .i64 0, .int .i64 0, .int .i64 0, .bool false, .bool false, .int .i64 0, .int .i64 0], .iface 120 (.pointer (some z))]) (by simp [results, Tryd.results75, go_sem, *]) rfl ⟨rfl, below_drew (below_sets HB0.out _ _ _ _ _ _ _ _ _ _)⟩
theorem read_bad (ao : Option Addr) (cap : Nat) (xs : List Int) (w : World) {x y z : Addr} (h : Row w ao xs) (he : ReadErrs w x y z) (hn : xs.length = 40) (hi : isRec xs = false) :
    Calls Tryd.prog 75 #[.slice ao 40 cap] w fun e w' => e = .returned (.tuple #[noRec.val, errV z]) ∧ Below w.heap.size w w' := by
  cases hg : goodB (partsR xs) with
  | false => exact read_bad1 ao cap xs w h he hn hg
  | true =>
    refine read_bad2 ao cap xs w h he hn hg ?_
    unfold isRec at hi
    rw [hg, Bool.true_and] at hi
    exact hi
end Go.Proofs.YtgjhnkadfdcafaaDoor

/- What the document's own GoodRec answers: the same as rec.Check. -/
namespace Go.Proofs.YtgjhnkadfdcafaaDoor
open Go.RowKit
set_option linter.unusedVariables false

theorem holds00 (n : Int) : holdsB 0 0 n = (n == 0) := by
  unfold holdsB
  by_cases h : n = 0
  · simp [h]
  · have : (n == 0) = false := by simpa using h
    rw [this, Bool.and_eq_false_iff]
    by_cases h0 : 0 ≤ n
    · exact .inr (decide_eq_false (by omega))
    · exact .inl (decide_eq_false h0)
theorem good1 (txn page prev next key : Int) (had has : Bool) (old new : Int) : goodB ⟨1, txn, page, prev, next, key, had, has, old, new⟩ = (holdsB 1 60000 txn && (holdsB 0 0 page && (holdsB 0 0 prev && (holdsB 0 0 next && (holdsB 0 0 key && ((!had && (old == 0)) && ((!has && (new == 0)) && true))))))) := rfl
theorem good2 (txn page prev next key : Int) (had has : Bool) (old new : Int) : goodB ⟨2, txn, page, prev, next, key, had, has, old, new⟩ = (holdsB 1 60000 txn && (holdsB 1 32 page && (holdsB 0 1073741824 prev && (holdsB 0 0 next && (holdsB 0 1048575 key && ((had || (old == 0)) && ((has || (new == 0)) && (had || has)))))))) := rfl
theorem good3 (txn page prev next key : Int) (had has : Bool) (old new : Int) : goodB ⟨3, txn, page, prev, next, key, had, has, old, new⟩ = (holdsB 1 60000 txn && (holdsB 1 32 page && (holdsB 0 1073741824 prev && (holdsB 0 1073741824 next && (holdsB 0 1048575 key && ((had && (decide (1 ≤ old) && decide (old ≤ 1073741824))) && ((has || (new == 0)) && true))))))) := rfl
end Go.Proofs.YtgjhnkadfdcafaaDoor

/- What the document's own GoodRec answers: the same as rec.Check. -/
namespace Go.Proofs.YtgjhnkadfdcafaaDoor
open Go.RowKit
set_option linter.unusedVariables false

theorem good4 (txn page prev next key : Int) (had has : Bool) (old new : Int) : goodB ⟨4, txn, page, prev, next, key, had, has, old, new⟩ = (holdsB 1 60000 txn && (holdsB 0 0 page && (holdsB 0 1073741824 prev && (holdsB 0 0 next && (holdsB 0 0 key && ((!had && (old == 0)) && ((!has && (new == 0)) && true))))))) := rfl
theorem good5 (txn page prev next key : Int) (had has : Bool) (old new : Int) : goodB ⟨5, txn, page, prev, next, key, had, has, old, new⟩ = (holdsB 1 60000 txn && (holdsB 0 0 page && (holdsB 0 1073741824 prev && (holdsB 0 0 next && (holdsB 0 0 key && ((!had && (old == 0)) && ((!has && (new == 0)) && true))))))) := rfl
theorem good6 (txn page prev next key : Int) (had has : Bool) (old new : Int) : goodB ⟨6, txn, page, prev, next, key, had, has, old, new⟩ = (holdsB 1 60000 txn && (holdsB 0 0 page && (holdsB 0 1073741824 prev && (holdsB 0 0 next && (holdsB 0 0 key && ((!had && (old == 0)) && ((!has && (new == 0)) && true))))))) := rfl
theorem good7 (txn page prev next key : Int) (had has : Bool) (old new : Int) : goodB ⟨7, txn, page, prev, next, key, had, has, old, new⟩ = (holdsB 0 0 txn && (holdsB 0 0 page && (holdsB 0 0 prev && (holdsB 0 0 next && (holdsB 0 0 key && ((!had && (old == 0)) && ((!has && (new == 0)) && true))))))) := rfl
end Go.Proofs.YtgjhnkadfdcafaaDoor

/- What the document's own GoodRec answers: the same as rec.Check. -/
namespace Go.Proofs.YtgjhnkadfdcafaaDoor
open Go.RowKit
set_option linter.unusedVariables false

theorem good8 (txn page prev next key : Int) (had has : Bool) (old new : Int) : goodB ⟨8, txn, page, prev, next, key, had, has, old, new⟩ = (holdsB 1 60000 txn && (holdsB 0 0 page && (holdsB 0 1073741824 prev && (holdsB 0 1073741824 next && (holdsB 0 2 key && ((!had && (old == 0)) && ((!has && (new == 0)) && true))))))) := rfl
theorem good9 (txn page prev next key : Int) (had has : Bool) (old new : Int) : goodB ⟨9, txn, page, prev, next, key, had, has, old, new⟩ = (holdsB 0 0 txn && (holdsB 1 32 page && (holdsB 1 1073741824 prev && (holdsB 0 0 next && (holdsB 0 0 key && ((!had && (old == 0)) && ((!has && (new == 0)) && true))))))) := rfl
theorem good10 (txn page prev next key : Int) (had has : Bool) (old new : Int) : goodB ⟨10, txn, page, prev, next, key, had, has, old, new⟩ = (holdsB 0 0 txn && (holdsB 0 0 page && (holdsB 0 0 prev && (holdsB 0 60000 next && (holdsB 0 0 key && ((!had && (old == 0)) && ((!has && (new == 0)) && true))))))) := rfl
end Go.Proofs.YtgjhnkadfdcafaaDoor

/- What the document's own RecBytes answers: the same as rec.Bytes. -/
namespace Go.Proofs.YtgjhnkadfdcafaaDoor
open Go.RowKit
set_option linter.unusedVariables false

end Go.Proofs.YtgjhnkadfdcafaaDoor

/- What the document's own ReadRec answers: the same as rec.Read, the error as a number. -/
namespace Go.Proofs.YtgjhnkadfdcafaaDoor
open Go.RowKit
set_option linter.unusedVariables false

theorem and_one8 (m : Int) (h0 : 0 ≤ m) (h1 : m ≤ 255) : (bits .and .u8 m 1 == 1) = decide (m % 2 = 1) := by
  have hk : ∀ n : Fin 256, (bits .and .u8 ((n : Nat) : Int) 1 == 1) = decide (((n : Nat) : Int) % 2 = 1) := by decide +kernel
  have := hk ⟨m.toNat, by omega⟩
  rwa [show (((⟨m.toNat, by omega⟩ : Fin 256) : Nat) : Int) = m by simp; omega] at this
theorem and_two8 (m : Int) (h0 : 0 ≤ m) (h1 : m ≤ 255) : (bits .and .u8 m 2 == 2) = decide (m / 2 % 2 = 1) := by
  have hk : ∀ n : Fin 256, (bits .and .u8 ((n : Nat) : Int) 2 == 2) = decide (((n : Nat) : Int) / 2 % 2 = 1) := by decide +kernel
  have := hk ⟨m.toNat, by omega⟩
  rwa [show (((⟨m.toNat, by omega⟩ : Fin 256) : Nat) : Int) = m by simp; omega] at this
theorem getB_one (xs : List Int) (i : Nat) : getB xs i 1 = xs.getD i 0 := by
  rw [← byteAt_nat]
  unfold getB
  simp [num]
/-- A fact that is handed on, and not looked at. -/
structure Later (P : Prop) : Prop where
  out : P
theorem dup {P Q : Prop} (h : P) (k : Later P → Q) : Q := k ⟨h⟩
theorem wrap_in (n : Int) (h : 0 ≤ n ∧ n ≤ 9223372036854775807) : IntKind.i64.wrap n = n := by rw [IntWalk.i64_left]; exact IntWalk.wrap64_in n ⟨by omega, h.2⟩
theorem i64_left2 (n : Int) : IntKind.i64.wrap n = wrap64 n := IntWalk.i64_left n
theorem val_inj {r : R} {a b c d e f : Int} {g h : Bool} {i j : Int} (hv : r.val = .agg #[.int .i64 a, .int .i64 b, .int .i64 c, .int .i64 d, .int .i64 e, .int .i64 f, .bool g, .bool h, .int .i64 i, .int .i64 j]) : r = ⟨a, b, c, d, e, f, g, h, i, j⟩ := by
  obtain ⟨a1, b1, c1, d1, e1, f1, g1, h1, i1, j1⟩ := r
  simp [R.val] at hv
  obtain ⟨rfl, rfl, rfl, rfl, rfl, rfl, rfl, rfl, rfl, rfl⟩ := hv
  rfl
end Go.Proofs.YtgjhnkadfdcafaaDoor

/- What the document's own BlockBytes (phoenixref1) answers, at every epoch and list of records: the number of ErrRange, or a block's bytes in new memory. -/
namespace Go.Proofs.YtgjhnkadfdcafaaDoor
open Go.RowKit
set_option linter.unusedVariables false

theorem append_two {w : World} {ops : Array Oper} {rest : List Oper} {o : Oper} {a : Act} {Q : Exit → Act → World → Prop}
    (hw : Region.wanted o (yielded ops a.tmps) = true) (s x : Operand)
    (ho : o.op = .call { callee := .builtin .append, args := #[s, x], argTypes := #[51, 51] })
    (B : Nat) (ao : Option Addr) (cap m : Nat) (xs : List Int) (hs : a.eval s = .slice ao m cap) (hm : xs.length = m) (hO : Own w B ao cap xs)
    (g k c : Nat) (ys : List Int) (hx : a.eval x = .slice (some ⟨g, 0, none⟩) k c) (hk : ys.length = k) (hr : Row w (some ⟨g, 0, none⟩) ys)
    (hlen : m + k ≤ 4294967296) (hB : B ≤ w.heap.size)
    (h : ∀ ao' c' w', Own w' B ao' c' (xs ++ ys) → Below B w w' → wpList Tryd.prog ops Q rest (a.put o.dst (.slice ao' (m + k) c')) w') : wpList Tryd.prog ops Q (o :: rest) a w := by
  subst hm; subst hk
  refine wpList_append_bytes hw s x ho B ao cap xs hs hO _ c ys hx hr (fun e => by cases e) hlen hB (xs ++ ys) rfl fun ao' c' w' h1 h2 _ => ?_
  rw [List.length_append]
  exact h ao' c' w' h1 h2
def mark16 : Obj := .cells #[.int .u8 80, .int .u8 72, .int .u8 88, .int .u8 66, .int .u8 0, .int .u8 0, .int .u8 0, .int .u8 0, .int .u8 0, .int .u8 0, .int .u8 0, .int .u8 0, .int .u8 0, .int .u8 0, .int .u8 0, .int .u8 0] 5
theorem mark0_is : mark0 = [80, 72, 88, 66, 0, 0, 0, 0, 0, 0, 0, 0, 0, 0, 0, 0] := by decide
theorem mark16_row (w : World) : Row (w.alloc mark16) (some ⟨w.heap.size, 0, none⟩) mark0 := by
  have hb : Bytes mark0 := bytes_head0.grownB _
  refine ⟨by rw [length_mark0]; omega, hb, fun _ => ⟨_, _, rfl, by simp, fun i hi => ?_⟩⟩
  rw [length_mark0] at hi
  rw [Nat.zero_add, cell_row (heap_alloc_new w mark16), mark0_is]
  rcases (show i = 0 ∨ i = 1 ∨ i = 2 ∨ i = 3 ∨ i = 4 ∨ i = 5 ∨ i = 6 ∨ i = 7 ∨ i = 8 ∨ i = 9 ∨ i = 10 ∨ i = 11 ∨ i = 12 ∨ i = 13 ∨ i = 14 ∨ i = 15 by omega) with rfl | rfl | rfl | rfl | rfl | rfl | rfl | rfl | rfl | rfl | rfl | rfl | rfl | rfl | rfl | rfl <;> rfl
/-- What BlockBytes answers. -/
def rbPost (e : Int) (rs : List R) (w : World) (r : Ending) (w' : World) : Prop :=
  ((okB e rs = true ∧ ∃ g c, r = .returned (.tuple #[.slice (some ⟨g, 0, none⟩) 256 c, .int .i64 0]) ∧ (w.heap.size ≤ g ∧ 256 ≤ c) ∧ Own w' g (some ⟨g, 0, none⟩) c (blockB e rs)) ∨ (okB e rs = false ∧ r = .returned (.tuple #[.slice none 0 0, .int .i64 102]))) ∧ Below w.heap.size w w'
end Go.Proofs.YtgjhnkadfdcafaaDoor

/- What block.Read answers: the records of a block, or why there are none; nothing that was there is written. -/
namespace Go.Proofs.YtgjhnkadfdcafaaDoor
open Go.RowKit
set_option linter.unusedVariables false

theorem Row.cut {w : World} {b off m : Nat} {J X : List Int} (h : Row w (some ⟨b, off, none⟩) J) (hX : (J.drop m).take X.length = X) : Row w (some ⟨b, off + m, none⟩) X := by
  obtain ⟨h0, h1, h2⟩ := h
  have hlen : X.length ≤ J.length - m := by
    have := congrArg List.length hX
    simp at this
    omega
  refine ⟨by omega, fun x hx => h1 x ?_, fun hp => ?_⟩
  · rw [← hX] at hx
    exact List.mem_of_mem_drop (List.mem_of_mem_take hx)
  · obtain ⟨b', off', e, hb, hc⟩ := h2 (by omega)
    simp only [Option.some.injEq, Addr.mk.injEq, and_true] at e
    obtain ⟨rfl, rfl⟩ := e
    refine ⟨b, off + m, rfl, hb, fun i hi => ?_⟩
    have := hc (m + i) (by omega)
    rw [← Nat.add_assoc] at this
    rw [this]
    congr 2
    conv => rhs; rw [← hX]
    rw [List.getD_eq_getElem?_getD, List.getD_eq_getElem?_getD, List.getElem?_take, if_pos hi, List.getElem?_drop]
theorem Row.at40 {w : World} {b off : Nat} {xs : List Int} (h : Row w (some ⟨b, off, none⟩) xs) (hl : xs.length = 256) (i : Nat) (hi : i < 6) : Row w (some ⟨b, off + (16 + i * 40), none⟩) (partAt xs i) := by
  rw [Nat.mul_comm]
  exact h.cut (by rw [length_partAt xs i hl hi]; rfl)
/-- What block.records answers. -/
def recsPost (xs : List Int) (z : Addr) (w : World) (r : Ending) (w' : World) : Prop :=
  ((partsOk xs (manyOf xs) = true ∧ ∃ ao c, r = .returned (.tuple #[.slice ao (manyOf xs) c, .nilIface]) ∧ OwnR w' w.heap.size ao c (recsOf xs)) ∨ (partsOk xs (manyOf xs) = false ∧ r = .returned (.tuple #[.slice none 0 0, errV z]))) ∧ Below w.heap.size w w'
set_option maxRecDepth 100000 in
set_option maxHeartbeats 4000000 in
theorem records_any (b off cap : Nat) (xs : List Int) (w : World) {x y z : Addr} (he : ReadErrs w x y z) (h : Row w (some ⟨b, off, none⟩) xs) (hn : xs.length = 256) (hcap : 256 ≤ cap) :
    Calls Tryd.prog 68 #[.slice (some ⟨b, off, none⟩) 256 cap] w (recsPost xs z w) := by
  have hc := getB_lt xs h.2.1 8 2
  obtain ⟨cn, hcn⟩ : ∃ cn, cn = countOf xs := ⟨_, rfl⟩
  have HCN : Hid (getB xs 8 (widthB 2).toNat = cn) := hcn.symm
  have HQ : Hid (manyOf xs = min cn.toNat 6) := by show manyOf xs = _; rw [hcn]; rfl
  rw [show getB xs 8 2 = cn from hcn.symm] at hc
  obtain ⟨hc0, hc1⟩ := hc
  rw [show (256 : Int) ^ 2 = 65536 by decide] at hc1
  have HE := hide he
  have HR := hide h
  have HN := hide hn
  clear he h hn hcn
  go_enter Tryd.func68, Tryd.ntmps68
  go_wp2_with fail
  refine (get_at _ _ _ xs _ _ _ HR.out HN.out (by omega) (by omega)).mono ?_
  rintro r w1 ⟨rfl, rfl⟩
  rw [HCN.out]
  go_wp2_with fail
  obtain ⟨q, hq⟩ : ∃ q, q = manyOf xs := ⟨_, rfl⟩
  have hq6 := manyOf_le xs
  have hqi : min cn 6 = (q : Int) := by rw [hq, HQ.out]; omega
  rw [← hq] at hq6
  have HQ2 : Hid (manyOf xs = q) := hq.symm
  rw [hqi]
  clear hq hqi HQ HCN hc0 hc1
  go_loopw [4, 13] (fun v i wr => ∃ k : Nat, k ≤ q ∧ i = .int .i64 k ∧ ∃ ao c, v = .slice ao k c ∧ OwnR wr w1.heap.size ao c (recsUp xs k) ∧ Below w1.heap.size w1 wr ∧ ∀ i, i < k → isRec (partAt xs i) = true) (fun _ i _ => q - (intOf i).toNat)
  case atStart => exact ⟨0, by omega, rfl, none, 0, rfl, ownR_nil _ _, Below.refl _ _, fun i hi => by omega⟩
  case round =>
    obtain ⟨k, hk, rfl, ao, c, rfl, hown, hbel, hgood⟩ := hrel
    have HO := hide hown
    have HB := hide hbel
    have HG := hide hgood
    clear hown hbel hgood
    by_cases hlt : k < q
    · have hki : (k : Int) < (q : Int) := by omega
      have HRow := hide ((HR.out.below HB.out (Nat.le_refl _)).at40 HN.out k (by omega))
      have HLen := hide (length_partAt xs k HN.out (by omega))
      have HE1 := hide (HE.out.step HB.out)
      cases hir : isRec (partAt xs k) with
      | true =>
        go_wp2_with fail
        refine (read_ok _ _ (partAt xs k) _ HRow.out HE1.out HLen.out hir).mono ?_
        rintro r w2 ⟨rfl, hb2⟩
        have HS : Hid (recsUp xs (k + 1) = recsUp xs k ++ [partsR (partAt xs k)]) := recsUp_succ xs k
        have HG2 : Hid (∀ i, i < k + 1 → isRec (partAt xs i) = true) := by
          intro i hi
          by_cases e : i = k
          · rw [e]; exact hir
          · exact HG.out i (by omega)
        obtain ⟨r0, hr0⟩ : ∃ r0, r0 = partsR (partAt xs k) := ⟨_, rfl⟩
        rw [← hr0] at HS ⊢
        have HB1 := hide (below_box w2 (recCells r0))
        have HBw := hide (over HB.out hb2 HB.out.size)
        have HO1 := hide ((HO.out.below hb2 (Nat.le_refl _)).below HB1.out (Nat.le_refl _))
        have HB3 := hide (over HBw.out HB1.out HBw.out.size)
        clear hb2 hr0 HBw HB1
        unfold R.val
        unfold recCells at HO1 HB3
        go_wp2_with (first | (refine build1 r0 rfl ?_) | (at_builtin; refine append1 w1.heap.size ao k c (recsUp xs k) r0 rfl (length_recsUp xs k) HO1.out (by omega) (by simp; rfl) HB3.out.size ?_; intro ao4 c4 w4 hown4 hb4; have HO4 := hide hown4; have HB4 := hide (HB3.out.trans hb4); clear hown4 hb4))
        go_roundw
        case rel => exact ⟨k + 1, by omega, by go_num, ao4, c4, rfl, by rw [HS.out]; exact HO4.out, HB4.out, HG2.out⟩
        case measure => simp [intOf]; omega
      | false =>
        go_wp2_with fail
        refine (read_bad _ _ (partAt xs k) _ HRow.out HE1.out HLen.out hir).mono ?_
        rintro r w2 ⟨rfl, hb2⟩
        have HBw := hide (over HB.out hb2 HB.out.size)
        have HB3 := hide (over HBw.out (below_box w2 (recCells noRec)) HBw.out.size)
        clear hb2 HBw
        unfold errV
        unfold R.val
        unfold noRec
        unfold recCells noRec at HB3
        go_wp2_with fail
        go_ret2
        exact ⟨.inr ⟨partsOk_no (by rw [HQ2.out]; exact hlt) hir, rfl⟩, HB3.out⟩
    · have hki : decide ((k : Int) < (q : Int)) = false := by simp; omega
      go_wp2_with fail
      go_ret2
      have hkq : k = q := by omega
      have hO := HO.out
      rw [hkq, ← HQ2.out] at hO
      exact ⟨.inl ⟨(partsOk_iff _ _).2 (by rw [HQ2.out, ← hkq]; exact HG.out), ao, c, by rw [HQ2.out, hkq]; rfl, hO⟩, HB.out⟩
end Go.Proofs.YtgjhnkadfdcafaaDoor

/- What block.Read answers, at all bytes: ErrShort, nothing, ErrBlock, or a block's epoch and records; nothing that was there is written. -/
namespace Go.Proofs.YtgjhnkadfdcafaaDoor
open Go.RowKit
set_option linter.unusedVariables false

/-- The errors that block.Read can meet: their variables. -/
structure BlkErrs (w : World) (x y z t : Addr) : Prop where
  rd : ReadErrs w x y z
  blk : w.cell? ⟨5, 0, none⟩ = some (errV t)
theorem BlkErrs.step {w w' : World} {x y z t : Addr} (h : BlkErrs w x y z t) (hb : Below w.heap.size w w') : BlkErrs w' x y z t := ⟨h.rd.step hb, (hb.cell (World.block_lt_of_cell? w _ h.blk)).trans h.blk⟩
theorem BlkErrs.over {B : Nat} {w w' : World} {x y z t : Addr} (h : BlkErrs w x y z t) (hb : Below B w w') (hB : w.heap.size ≤ B) : BlkErrs w' x y z t := h.step (hb.mono hB)
theorem errs_blk {w : World} {ks : List Nat} {a : Nat → Addr} (h : ErrsOf w ks a) (h1 : 1 ∈ ks) (h2 : 2 ∈ ks) (h3 : 3 ∈ ks) (h4 : 4 ∈ ks) : BlkErrs w (a 1) (a 2) (a 3) (a 4) := ⟨⟨h.cell 1 h1, h.cell 2 h2, h.cell 3 h3⟩, h.cell 4 h4⟩
set_option maxRecDepth 100000 in
set_option maxHeartbeats 1000000 in
theorem bread_short (ao : Option Addr) (n cap : Nat) (w : World) {x y z t : Addr} (he : BlkErrs w x y z t) (hn : n ≠ 256) :
    Calls Tryd.prog 61 #[.slice ao n cap] w fun e w' => e = .returned (.tuple #[.int .i64 0, .slice none 0 0, errV y]) ∧ Below w.heap.size w w' := by
  have hne : ((n : Int) != 256) = true := by simp; omega
  have hE0 := he.rd.short
  clear he hn
  unfold errV at *
  go_enter Tryd.func61, Tryd.ntmps61
  go_wp2_with fail
  go_quiet (fail)
  go_wp2_with fail
  exact bodyPost_ret (v := .tuple #[.int .i64 0, .slice none 0 0, .iface 120 (.pointer (some y))]) (by simp [results, Tryd.results61, go_sem]) rfl ⟨rfl, below_drewN (Below.refl _ _) _⟩
set_option maxRecDepth 100000 in
set_option maxHeartbeats 1000000 in
theorem bread_zero (ao : Option Addr) (cap : Nat) (xs : List Int) (w : World) (h : Row w ao xs) (hn : xs.length = 256) (hz : zeroB xs = true) :
    Calls Tryd.prog 61 #[.slice ao 256 cap] w fun e w' => e = .returned (.tuple #[.int .i64 0, .slice none 0 0, .nilIface]) ∧ Below w.heap.size w w' := by
  have HR := hide h
  have HN := hide hn
  clear h hn
  go_enter Tryd.func61, Tryd.ntmps61
  go_wp2_with fail
  refine (zero_len _ _ _ xs _ HR.out HN.out).mono ?_
  rintro e w1 ⟨rfl, rfl⟩
  rw [hz]
  go_wp2_with fail
  exact bodyPost_ret (v := .tuple #[.int .i64 0, .slice none 0 0, .nilIface]) (by simp [results, Tryd.results61, go_sem]) rfl ⟨rfl, Below.refl _ _⟩
/-- What block.Read answers of a sector that is not all zeros. -/
def brPost (xs : List Int) (t : Addr) (w : World) (r : Ending) (w' : World) : Prop :=
  ((isBlock xs = true ∧ ∃ ao c, r = .returned (.tuple #[.int .i64 (epochOf xs), .slice ao (manyOf xs) c, .nilIface]) ∧ OwnR w' w.heap.size ao c (recsOf xs)) ∨ (isBlock xs = false ∧ r = .returned (.tuple #[.int .i64 0, .slice none 0 0, errV t]))) ∧ Below w.heap.size w w'
theorem isBlock_no1 {xs : List Int} (h : partsOk xs (manyOf xs) = false) : isBlock xs = false := by unfold isBlock; rw [h]; rfl
theorem isBlock_no2 {xs : List Int} (h : okB (epochOf xs) (recsOf xs) = false) : isBlock xs = false := by unfold isBlock; rw [h]; simp
theorem isBlock_no3 {xs : List Int} (h : sameB (blockB (epochOf xs) (recsOf xs)) xs = false) : isBlock xs = false := by
  unfold sameB at h
  unfold isBlock
  rw [h]
  simp
theorem isBlock_yes {xs : List Int} (h1 : partsOk xs (manyOf xs) = true) (h2 : okB (epochOf xs) (recsOf xs) = true) (h : sameB (blockB (epochOf xs) (recsOf xs)) xs = true) : isBlock xs = true := by
  unfold sameB at h
  unfold isBlock
  rw [h1, h2, h]
  rfl
set_option maxRecDepth 100000 in
set_option maxHeartbeats 4000000 in
theorem bread_any (ao : Option Addr) (cap : Nat) (xs : List Int) (w : World) {x y z t : Addr} (he : BlkErrs w x y z t) (h : Row w ao xs) (hn : xs.length = 256) (hcap : 256 ≤ cap) (hz : zeroB xs = false) :
    Calls Tryd.prog 61 #[.slice ao 256 cap] w (brPost xs t w) := by
  obtain ⟨b, off, rfl, _, _⟩ := h.2.2 (by omega)
  have hc := getB_lt xs h.2.1 4 4
  obtain ⟨ep, hep⟩ : ∃ ep, ep = epochOf xs := ⟨_, rfl⟩
  have HEP : Hid (getB xs 4 (widthB 4).toNat = ep) := hep.symm
  have HEQ : Hid (epochOf xs = ep) := hep.symm
  rw [show getB xs 4 4 = ep from hep.symm] at hc
  obtain ⟨hc0, hc1⟩ := hc
  rw [show (256 : Int) ^ 4 = 4294967296 by decide] at hc1
  have HE := hide he
  have HR := hide h
  have HN := hide hn
  clear he h hn hep
  go_enter Tryd.func61, Tryd.ntmps61
  go_wp2_with fail
  refine (zero_len _ _ _ xs _ HR.out HN.out).mono ?_
  rintro e w1 ⟨rfl, rfl⟩
  rw [hz]
  go_wp2_with fail
  refine (records_any b off cap xs _ HE.out.rd HR.out HN.out hcap).mono ?_
  rintro r w2 ⟨hcase, hb⟩
  have HB := hide hb
  have HR2 := hide (HR.out.below hb (Nat.le_refl _))
  have HE2 := hide (HE.out.step hb)
  clear hb
  rcases hcase with ⟨hp, lo, c, rfl, hown⟩ | ⟨hp, rfl⟩
  · have HO := hide hown
    have HP := hide hp
    obtain ⟨q, hq⟩ : ∃ q, q = manyOf xs := ⟨_, rfl⟩
    have HQ : Hid (manyOf xs = q) := hq.symm
    have hq6 := manyOf_le xs
    rw [← hq] at hq6 ⊢
    have HL : Hid ((recsOf xs).length = q) := by show (recsOf xs).length = q; rw [length_recsOf, hq]
    clear hown hp hq
    go_wp2_with fail
    refine (get_at _ _ _ xs _ _ _ HR2.out HN.out (by omega) (by omega)).mono ?_
    rintro r w3 ⟨rfl, rfl⟩
    rw [HEP.out]
    go_wp2_with fail
    refine (bb_any ep _ _ _ (recsOf xs) _ x HE2.out.rd.range HO.out.row HL.out).mono ?_
    rintro r w4 ⟨hcase, hb⟩
    replace HB := hide (over HB.out hb HB.out.size)
    have HR3 := hide (HR2.out.below hb (Nat.le_refl _))
    have HE3 := hide (HE2.out.step hb)
    have HO3 := hide (HO.out.below hb (Nat.le_refl _))
    clear hb
    rcases hcase with ⟨hok, g, rfl, hg, hown⟩ | ⟨hok, rfl⟩
    · have HOK := hide hok
      have HO4 := hide hown
      clear hok hown hg
      have HLB : Hid ((blockB ep (recsOf xs)).length = 256) := length_blockB _ _ (by rw [HL.out]; exact hq6)
      go_wp2_with fail
      refine (equal_any _ _ _ (blockB ep (recsOf xs)) _ _ _ xs _ HO4.out.row HR3.out HLB.out HN.out (by omega) (by omega)).mono ?_
      rintro r w5 ⟨rfl, rfl⟩
      cases hsm : sameB (blockB ep (recsOf xs)) xs with
      | true =>
        go_wp2_with fail
        refine bodyPost_ret (v := .tuple #[.int .i64 ep, .slice lo q c, .nilIface]) (by simp [results, Tryd.results61, go_sem]) rfl ⟨.inl ⟨isBlock_yes HP.out (by rw [HEQ.out]; exact HOK.out) (by rw [HEQ.out]; exact hsm), lo, c, by rw [HEQ.out, HQ.out], HO3.out⟩, HB.out⟩
      | false =>
        have hE0 := HE3.out.blk
        unfold errV at hE0
        go_wp2_with fail
        go_quiet (fail)
        go_wp2_with fail
        refine bodyPost_ret (v := .tuple #[.int .i64 0, .slice none 0 0, .iface 120 (.pointer (some t))]) (by simp [results, Tryd.results61, go_sem]) rfl ⟨.inr ⟨isBlock_no3 (by rw [HEQ.out]; exact hsm), rfl⟩, below_drewN HB.out _⟩
    · have hE0 := HE3.out.blk
      have HOK := hide hok
      clear hok
      unfold errV at hE0 ⊢
      go_wp2_with fail
      go_quiet (fail)
      go_wp2_with fail
      refine bodyPost_ret (v := .tuple #[.int .i64 0, .slice none 0 0, .iface 120 (.pointer (some t))]) (by simp [results, Tryd.results61, go_sem]) rfl ⟨.inr ⟨isBlock_no2 (by rw [HEQ.out]; exact HOK.out), rfl⟩, below_drewN HB.out _⟩
  · have hE0 := HE2.out.blk
    have HP := hide hp
    clear hp
    unfold errV at hE0 ⊢
    go_wp2_with fail
    go_quiet (fail)
    go_wp2_with fail
    refine bodyPost_ret (v := .tuple #[.int .i64 0, .slice none 0 0, .iface 120 (.pointer (some t))]) (by simp [results, Tryd.results61, go_sem]) rfl ⟨.inr ⟨isBlock_no1 HP.out, rfl⟩, below_drewN HB.out _⟩
end Go.Proofs.YtgjhnkadfdcafaaDoor

/- What the document's own ReadBlock (phoenixref1) answers, at all bytes: the same as block.Read, the error as a number. -/
namespace Go.Proofs.YtgjhnkadfdcafaaDoor
open Go.RowKit
set_option linter.unusedVariables false

theorem Row.at41 {w : World} {b off : Nat} {xs : List Int} (h : Row w (some ⟨b, off, none⟩) xs) (hl : xs.length = 256) (i : Nat) (hi : i < 6) : Row w (some ⟨b, off + (16 + 40 * i), none⟩) (partAt xs i) :=
  h.cut (by rw [length_partAt xs i hl hi]; rfl)
/-- What ReadBlock answers of a sector that is not all zeros. -/
def rrPost (xs : List Int) (w : World) (r : Ending) (w' : World) : Prop :=
  ((isBlock xs = true ∧ ∃ ao c, r = .returned (.tuple #[.int .i64 (epochOf xs), .slice ao (manyOf xs) c, .int .i64 0]) ∧ OwnR w' w.heap.size ao c (recsOf xs)) ∨ (isBlock xs = false ∧ r = .returned (.tuple #[.int .i64 0, .slice none 0 0, .int .i64 105]))) ∧ Below w.heap.size w w'
end Go.Proofs.YtgjhnkadfdcafaaDoor

/- The chapter's examples on records, as the statements ask them first: they hold, and nothing that was there is written. -/
namespace Go.Proofs.YtgjhnkadfdcafaaDoor
open Go.RowKit
set_option linter.unusedVariables false

def ckBegin : R := ⟨7, 0, 0, 0, 0, 0, false, false, 0, 0⟩
def emptyRec : R := ⟨0, 0, 0, 0, 0, 0, false, false, 0, 0⟩
theorem ck_good : goodB ckBegin = true := by decide
theorem empty_bad : goodB emptyRec = false := by decide
theorem ck_first : (recB ckBegin).getD 0 0 = 7 := by decide +kernel
end Go.Proofs.YtgjhnkadfdcafaaDoor

/- The chapter's examples on blocks, as the statements ask them first: they hold, and nothing that was there is written. -/
namespace Go.Proofs.YtgjhnkadfdcafaaDoor
open Go.RowKit
set_option linter.unusedVariables false

theorem ok_first : okB 3 [⟨7, 0, 0, 0, 0, 0, false, false, 0, 0⟩] = true := by decide
end Go.Proofs.YtgjhnkadfdcafaaDoor

/- How a list of numbers that came in is handed to phoenixmake.Rec, and small facts on a byte that is turned. -/
namespace Go.Proofs.YtgjhnkadfdcafaaDoor
open Go.RowKit
set_option linter.unusedVariables false

def seqCells (lo : Option Addr) (len cap : Nat) : Obj := .cells #[.slice lo len cap, .int .i64 0] 47
theorem seq_new5 {w x : World} {lo : Option Addr} {len cap : Nat} {zs : List Int} (h : IsRow .i64 w lo len cap zs) (hl : len ≤ 500) (hb : Below w.heap.size w x) : SeqAt (x.alloc (seqCells lo len cap)) x.heap.size lo len cap zs 0 := by
  unfold seqCells
  refine ⟨heap_alloc_new _ _, fun i hi => ?_, by omega, by omega⟩
  rcases h with ⟨_, h2, _, _⟩ | ⟨a, rfl, h1, h2, h3, h4, h5⟩
  · omega
  · have hc := h4 i (by omega)
    obtain ⟨b, off, spot⟩ := a
    have hspot : spot = none := by
      have := World.cell?_spot (h4 0 (by omega))
      simpa [Addr.add] using this
    subst hspot
    rw [Addr.add_lit] at hc
    have hlt : b < w.heap.size := World.block_lt_of_cell? w _ hc
    have hs := hb.size
    refine ⟨b, off, rfl, by omega, ?_⟩
    rw [((Below.refl x.heap.size x).alloc (Nat.le_refl _) _).cell (show b < x.heap.size by omega), hb.cell (show b < w.heap.size from hlt)]
    exact hc
theorem seq_new {w x : World} {lo : Option Addr} {len cap : Nat} {zs : List Int} (h : IsRow .i64 w lo len cap zs) (hl : len ≤ 150) (hb : Below w.heap.size w x) : SeqAt (x.alloc (seqCells lo len cap)) x.heap.size lo len cap zs 0 := seq_new5 h (Nat.le_trans hl (by omega)) hb
theorem make_at {w x : World} {lo : Option Addr} {len cap : Nat} {zs : List Int} {N : Nat} (h : IsRow .i64 w lo len cap zs) (hl : len ≤ 60) (hb : Below w.heap.size w x) (hN : x.heap.size = N) :
    Calls Tryd.prog 28 #[.pointer (some ⟨N, 0, none⟩)] (x.alloc (.cells #[.slice lo len cap, .int .i64 0] 47)) fun e w' => ∃ r : R, e = .returned r.val ∧ goodB r = true ∧ r.fits ∧ Below x.heap.size x w' := by
  subst hN
  refine (make_any _ lo len cap zs _ (seq_new h (Nat.le_trans hl (by omega)) hb)).mono ?_
  rintro e w' ⟨r, rfl, hg, hf, hb'⟩
  exact ⟨r, rfl, hg, hf, (below_box x _).trans hb'⟩
theorem make_new {w x : World} {lo : Option Addr} {len cap : Nat} {zs : List Int} (h : IsRow .i64 w lo len cap zs) (hl : len ≤ 60) (hb : Below w.heap.size w x) :
    Calls Tryd.prog 28 #[.pointer (some ⟨x.heap.size, 0, none⟩)] (x.alloc (.cells #[.slice lo len cap, .int .i64 0] 47)) fun e w' => ∃ r : R, e = .returned r.val ∧ goodB r = true ∧ r.fits ∧ Below x.heap.size x w' := by
  refine (make_any _ lo len cap zs _ (seq_new h (Nat.le_trans hl (by omega)) hb)).mono ?_
  rintro e w' ⟨r, rfl, hg, hf, hb'⟩
  exact ⟨r, rfl, hg, hf, (below_box x _).trans hb'⟩
theorem noRec_val : noRec.val = .agg #[.int .i64 0, .int .i64 0, .int .i64 0, .int .i64 0, .int .i64 0, .int .i64 0, .bool false, .bool false, .int .i64 0, .int .i64 0] := rfl
theorem xor_zero (b : Int) (h0 : 0 ≤ b) (h1 : b ≤ 255) : bits .xor .u8 0 b = b := by
  have hk : ∀ n : Fin 256, bits .xor .u8 0 ((n : Nat) : Int) = ((n : Nat) : Int) := by decide +kernel
  have := hk ⟨b.toNat, by omega⟩
  rwa [show (((⟨b.toNat, by omega⟩ : Fin 256) : Nat) : Int) = b by simp; omega] at this
theorem or_four (b : Int) (h0 : 0 ≤ b) (h1 : b ≤ 3) : bits .or .u8 b 4 = b + 4 := by
  have hk : ∀ n : Fin 4, bits .or .u8 ((n : Nat) : Int) 4 = ((n : Nat) : Int) + 4 := by decide +kernel
  have := hk ⟨b.toNat, by omega⟩
  rwa [show (((⟨b.toNat, by omega⟩ : Fin 4) : Nat) : Int) = b by simp; omega] at this
theorem byteAt_set (xs : List Int) (p : Nat) (v : Int) (h : p < xs.length) : byteAt (xs.set p v) p = v := by
  rw [byteAt_nat, List.getD_eq_getElem?_getD, List.getElem?_set, if_pos rfl, if_pos h]
  rfl
theorem set_getD (xs : List Int) (p : Nat) (v u : Int) (h : p < xs.length) (hu : xs.getD p 0 = u) : (xs.set p v).set p u = xs := by
  rw [List.set_set]
  refine List.ext_getElem (by simp) fun i h1 h2 => ?_
  rw [List.getElem_set]
  split
  · rename_i e
    subst e
    rw [List.getD_eq_getElem?_getD, List.getElem?_eq_getElem h2] at hu
    exact hu.symm
  · rfl
theorem rec_getD (r : R) (p : Nat) (h : p = 6 ∨ p = 7 ∨ p = 20 ∨ p = 21 ∨ p = 22 ∨ p = 23) : (recB r).getD p 0 = 0 := by
  rw [← byteAt_nat]
  exact recB_zero r p (by omega)
theorem rec_mark (r : R) : (recB r).getD 1 0 = markB r := by
  rw [← byteAt_nat]
  exact recB_mark r
theorem errs_read {w : World} {ks : List Nat} {a : Nat → Addr} (h : ErrsOf w ks a) (h1 : 1 ∈ ks) (h2 : 2 ∈ ks) (h3 : 3 ∈ ks) : ReadErrs w (a 1) (a 2) (a 3) := ⟨h.cell 1 h1, h.cell 2 h2, h.cell 3 h3⟩
theorem read_any (ao : Option Addr) (cap : Nat) (xs : List Int) (n : Nat) (w : World) {x y z : Addr} (h : Row w ao xs) (he : ReadErrs w x y z) (hn : xs.length = n) :
    Calls Tryd.prog 75 #[.slice ao n cap] w fun e w' => ((n ≠ 40 ∧ e = .returned (.tuple #[noRec.val, errV y])) ∨ (n = 40 ∧ isRec xs = false ∧ e = .returned (.tuple #[noRec.val, errV z])) ∨ (n = 40 ∧ isRec xs = true ∧ e = .returned (.tuple #[(partsR xs).val, .nilIface]))) ∧ Below w.heap.size w w' := by
  by_cases h40 : n = 40
  · subst h40
    cases hi : isRec xs with
    | true => exact (read_ok ao cap xs w h he hn hi).mono fun e w' h => ⟨.inr (.inr ⟨rfl, rfl, h.1⟩), h.2⟩
    | false => exact (read_bad ao cap xs w h he hn hi).mono fun e w' h => ⟨.inr (.inl ⟨rfl, rfl, h.1⟩), h.2⟩
  · exact (read_short ao n cap w he h40).mono fun e w' h => ⟨.inl ⟨h40, h.1⟩, h.2⟩
end Go.Proofs.YtgjhnkadfdcafaaDoor

/- What phoenixmake.Recs makes out of a list of numbers: records that may be, in a list of their own; only the list's own counter is written besides. -/
namespace Go.Proofs.YtgjhnkadfdcafaaDoor
open Go.RowKit
set_option linter.unusedVariables false

theorem next_but (s : Nat) (lo : Option Addr) (len cap : Nat) (zs : List Int) (n : Nat) (m : Int) (w : World) (h : SeqAt w s lo len cap zs n) (h0 : 0 < m) (h1 : m ≤ 100000) (hn : n < 1000) :
    Calls Tryd.prog 22 #[.pointer (some ⟨s, 0, none⟩), .int .i64 m] w fun e w' => ∃ k : Nat, e = .returned (.int .i64 k) ∧ (k : Int) < m ∧ SeqAt w' s lo len cap zs (n + 1) ∧ But s w w' := by
  refine (next_any s lo len cap zs n m w h h0 h1).mono ?_
  rintro e w' ⟨k, q, rfl, hk, rfl⟩
  refine ⟨k.toNat, by rw [Int.toNat_of_nonneg hk.1], by rw [Int.toNat_of_nonneg hk.1]; exact hk.2, h.next (by omega) q, But.set s w 1 _ q⟩
theorem SeqAt.under {w w' : World} {B s : Nat} {lo : Option Addr} {len cap : Nat} {zs : List Int} {n : Nat} (h : SeqAt w s lo len cap zs n) (hb : Below B w w') (hs : s < B) : SeqAt w' s lo len cap zs n := by
  refine ⟨by rw [hb.block s hs]; exact h.lies, fun i hi => ?_, h.small⟩
  obtain ⟨b, off, e, hbs, hc⟩ := h.row i hi
  exact ⟨b, off, e, hbs, (hb.cell (show b < B by omega)).trans hc⟩
/-- A list of numbers that came in, made the source of records. -/
theorem seq_at {w x : World} {lo : Option Addr} {len cap : Nat} {zs : List Int} (h : IsRow .i64 w lo len cap zs) (hl : len ≤ 150) (hb : Below w.heap.size w x) : SeqAt (x.alloc (.cells #[.slice lo len cap, .int .i64 0] 47)) x.heap.size lo len cap zs 0 := seq_new h hl hb
set_option maxHeartbeats 400000 in
theorem number_big (n m : Int) (w : World) (h0 : 0 < m) (h1 : m ≤ 2000000000) : Calls Tryd.prog 11 #[.int .i64 n, .int .i64 m] w fun e w' => e = .returned (.int .i64 (numberB n m)) ∧ w' = w := by
  obtain ⟨t1, t2, t3, t4⟩ := tmod_cases n m h0
  have hne : (m == 0) = false := by simp; omega
  have hm1 : m ≠ 0 := by omega
  go_enter Tryd.func11, Tryd.ntmps11
  go_wp2
  all_goals
    go_ret
  · exact ⟨ret_int rfl, rfl⟩
  · exact ⟨ret_int (t2 (by assumption)), rfl⟩
end Go.Proofs.YtgjhnkadfdcafaaDoor

/- What rec.Same and the document's own SameRec answer: whether two records are the same in each part. -/
namespace Go.Proofs.YtgjhnkadfdcafaaDoor
open Go.RowKit
set_option linter.unusedVariables false

def sameR (a b : R) : Bool := decide (a.kind = b.kind ∧ a.txn = b.txn ∧ a.page = b.page ∧ a.prev = b.prev ∧ a.next = b.next ∧ a.key = b.key ∧ a.had = b.had ∧ a.has = b.has ∧ a.old = b.old ∧ a.new = b.new)
theorem eq_of_parts {a b : R} (h : a.kind = b.kind ∧ a.txn = b.txn ∧ a.page = b.page ∧ a.prev = b.prev ∧ a.next = b.next ∧ a.key = b.key ∧ a.had = b.had ∧ a.has = b.has ∧ a.old = b.old ∧ a.new = b.new) : a = b := by
  obtain ⟨a0, b0, c0, d0, e0, f0, g0, h0, i0, j0⟩ := a
  obtain ⟨a1, b1, c1, d1, e1, f1, g1, h1, i1, j1⟩ := b
  simp only at h
  obtain ⟨rfl, rfl, rfl, rfl, rfl, rfl, rfl, rfl, rfl, rfl⟩ := h
  rfl
theorem Tryd.st31 : Tryd.prog.underlying 31 = some (.struct (Tryd.prog.fieldsOf 31)) := by kernel_rfl
theorem Tryd.sh31 : Tryd.prog.stoodInHeld 31 = false := by kernel_rfl
theorem Tryd.gu31 : Tryd.prog.eqGuardType Tryd.prog.depth 31 = false := by kernel_rfl
set_option maxHeartbeats 1000000 in
theorem sameRec_same (a : R) (w : World) : Calls Tryd.prog 20 #[a.val, a.val] w fun e w' => e = .returned (.bool true) ∧ Below w.heap.size w w' := by
  obtain ⟨a0, b0, c0, d0, e0, f0, g0, h0, i0, j0⟩ := a
  unfold R.val
  simp only
  go_enter Tryd.func20, Tryd.ntmps20
  go_wp2_with fail
  go_ret
  exact ⟨rfl, (below_box w _).alloc (by simp) _⟩
theorem int_eq (d : Nat) (t : TypeId) (ht : Tryd.prog.underlying t = some (.int .i64)) (x y : Int) (w : World) : (Op.equalIn (d + 1) t (.int .i64 x) (.int .i64 y)).run Tryd.prog w = .ok (x == y) w := run_equalIn_int w d t .i64 .i64 x y ht
set_option maxHeartbeats 1000000 in
theorem eql_rec (a b : R) (w : World) : (binOp .eql 31 a.val b.val).run Tryd.prog w = .ok (.bool (sameR a b)) w := by
  obtain ⟨a0, b0, c0, d0, e0, f0, g0, h0, i0, j0⟩ := a
  obtain ⟨a1, b1, c1, d1, e1, f1, g1, h1, i1, j1⟩ := b
  unfold R.val
  simp only
  rw [run_eql_struct, show (10000 : Nat) = 9999 + 1 from rfl, run_equalIn_agg w 9999 31 _ _ Tryd.st31 Tryd.sh31]
  simp only [Program.fieldsOf, Tryd.underlying31]
  have e3 : ∀ (x y : Int) (w : World), (Op.equalIn 9999 3 (.int .i64 x) (.int .i64 y)).run Tryd.prog w = .ok (x == y) w := fun x y w => int_eq 9998 3 Tryd.underlying3 x y w
  have e2 : ∀ (x y : Int) (w : World), (Op.equalIn 9999 2 (.int .i64 x) (.int .i64 y)).run Tryd.prog w = .ok (x == y) w := fun x y w => int_eq 9998 2 Tryd.underlying2 x y w
  have e4 : ∀ (x y : Bool) (w : World), (Op.equalIn 9999 4 (.bool x) (.bool y)).run Tryd.prog w = .ok (x == y) w := fun x y w => run_equalIn_bool' w 9998 4 x y Tryd.underlying4
  unfold sameR
  by_cases q0 : a0 = a1
  · subst q0
    by_cases q1 : b0 = b1
    · subst q1
      by_cases q2 : c0 = c1
      · subst q2
        by_cases q3 : d0 = d1
        · subst q3
          by_cases q4 : e0 = e1
          · subst q4
            by_cases q5 : f0 = f1
            · subst q5
              by_cases q6 : g0 = g1
              · subst q6
                by_cases q7 : h0 = h1
                · subst q7
                  by_cases q8 : i0 = i1
                  · subst q8
                    by_cases q9 : j0 = j1
                    · subst q9
                      simp [Op.eqFields, part, go_sem, e3, e2, e4]
                    · simp [Op.eqFields, part, go_sem, e3, e2, e4, q9]
                  · simp [Op.eqFields, part, go_sem, e3, e2, e4, q8]
                · simp [Op.eqFields, part, go_sem, e3, e4, q7]
              · simp [Op.eqFields, part, go_sem, e3, e4, q6]
            · simp [Op.eqFields, part, go_sem, e3, q5]
          · simp [Op.eqFields, part, go_sem, e3, q4]
        · simp [Op.eqFields, part, go_sem, e3, q3]
      · simp [Op.eqFields, part, go_sem, e3, q2]
    · simp [Op.eqFields, part, go_sem, e3, q1]
  · simp [Op.eqFields, part, go_sem, e3, q0]
theorem wpList_eql {ops : Array Oper} {Q : Exit → Act → World → Prop} {act : Act} {w : World} {rest : List Oper} {d : Option Tmp} {ty : TypeId} {pos : String} {af : Array Edge} {x y : Operand} (a b : R) (hx : act.eval x = a.val) (hy : act.eval y = b.val)
    (h : wpList Tryd.prog ops Q rest (act.put d (.bool (sameR a b))) w) : wpList Tryd.prog ops Q ({ dst := d, op := .binOp .eql 31 x y 31, type := ty, pos := pos, after := af, guard := none } :: rest) act w := by
  refine BigFrame.wpList_want rfl fun K hK => ?_
  unfold Oper.wp
  have hr : (execOp act.eval { dst := d, op := .binOp .eql 31 x y 31, type := ty, pos := pos, after := af, guard := none }).run Tryd.prog w = .ok (.value (.bool (sameR a b))) w := by
    have hG : (eqGuard .eql 31 x y a.val b.val).run Tryd.prog w = .ok () w := run_eqGuard_agg w .eql 31 x y _ _ Tryd.gu31
    simp only [execOp, hx, hy, Sem.run_bind, hG, Result.andThen_ok, eql_rec, Sem.run_pure]
  rw [hr]
  exact hK _ _ h
end Go.Proofs.YtgjhnkadfdcafaaDoor

/- What the document's own SameRec answers of any two records: whether they are the same in each part. -/
namespace Go.Proofs.YtgjhnkadfdcafaaDoor
open Go.RowKit
set_option linter.unusedVariables false

set_option maxHeartbeats 4000000 in
theorem sameRec_any (a b : R) (w : World) : Calls Tryd.prog 20 #[a.val, b.val] w fun e w' => e = .returned (.bool (sameR a b)) ∧ Below w.heap.size w w' := by
  obtain ⟨a0, b0, c0, d0, e0, f0, g0, h0, i0, j0⟩ := a
  obtain ⟨a1, b1, c1, d1, e1, f1, g1, h1, i1, j1⟩ := b
  unfold R.val
  simp only
  by_cases q0 : a0 = a1
  case neg =>
    have HR : Hid (sameR ⟨a0, b0, c0, d0, e0, f0, g0, h0, i0, j0⟩ ⟨a1, b1, c1, d1, e1, f1, g1, h1, i1, j1⟩ = false) := hide (by simp [sameR, q0])
    have qq : (a0 == a1) = false := by simpa using q0
    clear q0
    go_enter Tryd.func20, Tryd.ntmps20
    go_wp2_with fail
    go_ret
    exact ⟨ret_bool (HR.out).symm, (below_box w _).alloc (by simp) _⟩
  subst q0
  by_cases q1 : b0 = b1
  case neg =>
    have HR : Hid (sameR ⟨a0, b0, c0, d0, e0, f0, g0, h0, i0, j0⟩ ⟨a0, b1, c1, d1, e1, f1, g1, h1, i1, j1⟩ = false) := hide (by simp [sameR, q1])
    have qq : (b0 == b1) = false := by simpa using q1
    clear q1
    go_enter Tryd.func20, Tryd.ntmps20
    go_wp2_with fail
    go_ret
    exact ⟨ret_bool (HR.out).symm, (below_box w _).alloc (by simp) _⟩
  subst q1
  by_cases q2 : c0 = c1
  case neg =>
    have HR : Hid (sameR ⟨a0, b0, c0, d0, e0, f0, g0, h0, i0, j0⟩ ⟨a0, b0, c1, d1, e1, f1, g1, h1, i1, j1⟩ = false) := hide (by simp [sameR, q2])
    have qq : (c0 == c1) = false := by simpa using q2
    clear q2
    go_enter Tryd.func20, Tryd.ntmps20
    go_wp2_with fail
    go_ret
    exact ⟨ret_bool (HR.out).symm, (below_box w _).alloc (by simp) _⟩
  subst q2
  by_cases q3 : d0 = d1
  case neg =>
    have HR : Hid (sameR ⟨a0, b0, c0, d0, e0, f0, g0, h0, i0, j0⟩ ⟨a0, b0, c0, d1, e1, f1, g1, h1, i1, j1⟩ = false) := hide (by simp [sameR, q3])
    have qq : (d0 == d1) = false := by simpa using q3
    clear q3
    go_enter Tryd.func20, Tryd.ntmps20
    go_wp2_with fail
    go_ret
    exact ⟨ret_bool (HR.out).symm, (below_box w _).alloc (by simp) _⟩
  subst q3
  by_cases q4 : e0 = e1
  case neg =>
    have HR : Hid (sameR ⟨a0, b0, c0, d0, e0, f0, g0, h0, i0, j0⟩ ⟨a0, b0, c0, d0, e1, f1, g1, h1, i1, j1⟩ = false) := hide (by simp [sameR, q4])
    have qq : (e0 == e1) = false := by simpa using q4
    clear q4
    go_enter Tryd.func20, Tryd.ntmps20
    go_wp2_with fail
    go_ret
    exact ⟨ret_bool (HR.out).symm, (below_box w _).alloc (by simp) _⟩
  subst q4
  by_cases q5 : f0 = f1
  case neg =>
    have HR : Hid (sameR ⟨a0, b0, c0, d0, e0, f0, g0, h0, i0, j0⟩ ⟨a0, b0, c0, d0, e0, f1, g1, h1, i1, j1⟩ = false) := hide (by simp [sameR, q5])
    have qq : (f0 == f1) = false := by simpa using q5
    clear q5
    go_enter Tryd.func20, Tryd.ntmps20
    go_wp2_with fail
    go_ret
    exact ⟨ret_bool (HR.out).symm, (below_box w _).alloc (by simp) _⟩
  subst q5
  by_cases q6 : g0 = g1
  case neg =>
    have HR : Hid (sameR ⟨a0, b0, c0, d0, e0, f0, g0, h0, i0, j0⟩ ⟨a0, b0, c0, d0, e0, f0, g1, h1, i1, j1⟩ = false) := hide (by simp [sameR, q6])
    have qq : (g0 == g1) = false := by simpa using q6
    clear q6
    go_enter Tryd.func20, Tryd.ntmps20
    go_wp2_with fail
    go_ret
    exact ⟨ret_bool (HR.out).symm, (below_box w _).alloc (by simp) _⟩
  subst q6
  by_cases q7 : h0 = h1
  case neg =>
    have HR : Hid (sameR ⟨a0, b0, c0, d0, e0, f0, g0, h0, i0, j0⟩ ⟨a0, b0, c0, d0, e0, f0, g0, h1, i1, j1⟩ = false) := hide (by simp [sameR, q7])
    have qq : (h0 == h1) = false := by simpa using q7
    clear q7
    go_enter Tryd.func20, Tryd.ntmps20
    go_wp2_with fail
    go_ret
    exact ⟨ret_bool (HR.out).symm, (below_box w _).alloc (by simp) _⟩
  subst q7
  by_cases q8 : i0 = i1
  case neg =>
    have HR : Hid (sameR ⟨a0, b0, c0, d0, e0, f0, g0, h0, i0, j0⟩ ⟨a0, b0, c0, d0, e0, f0, g0, h0, i1, j1⟩ = false) := hide (by simp [sameR, q8])
    have qq : (i0 == i1) = false := by simpa using q8
    clear q8
    go_enter Tryd.func20, Tryd.ntmps20
    go_wp2_with fail
    go_ret
    exact ⟨ret_bool (HR.out).symm, (below_box w _).alloc (by simp) _⟩
  subst q8
  by_cases q9 : j0 = j1
  case neg =>
    have HR : Hid (sameR ⟨a0, b0, c0, d0, e0, f0, g0, h0, i0, j0⟩ ⟨a0, b0, c0, d0, e0, f0, g0, h0, i0, j1⟩ = false) := hide (by simp [sameR, q9])
    have qq : (j0 == j1) = false := by simpa using q9
    clear q9
    go_enter Tryd.func20, Tryd.ntmps20
    go_wp2_with fail
    go_ret
    exact ⟨ret_bool (HR.out).symm, (below_box w _).alloc (by simp) _⟩
  subst q9
  have HR : Hid (sameR ⟨a0, b0, c0, d0, e0, f0, g0, h0, i0, j0⟩ ⟨a0, b0, c0, d0, e0, f0, g0, h0, i0, j0⟩ = true) := hide (by simp [sameR])
  go_enter Tryd.func20, Tryd.ntmps20
  go_wp2_with fail
  go_ret
  exact ⟨ret_bool (HR.out).symm, (below_box w _).alloc (by simp) _⟩
end Go.Proofs.YtgjhnkadfdcafaaDoor

/- What the document's own SameRecs answers of any two lists of records: whether they are the same. -/
namespace Go.Proofs.YtgjhnkadfdcafaaDoor
open Go.RowKit
set_option linter.unusedVariables false

theorem sameR_iff (a b : R) : sameR a b = true ↔ a = b := by
  constructor
  · intro h; exact eq_of_parts (by simpa [sameR] using h)
  · rintro rfl; simp [sameR]
/-- Two lists of records are the same. -/
def sameRs (rs ss : List R) : Bool := decide (rs.length = ss.length) && (List.range rs.length).all fun i => match rs[i]?, ss[i]? with | some a, some b => sameR a b | _, _ => false
theorem sameRs_iff (rs ss : List R) : sameRs rs ss = true ↔ rs = ss := by
  unfold sameRs
  rw [Bool.and_eq_true, decide_eq_true_eq, List.all_eq_true]
  constructor
  · rintro ⟨hl, h⟩
    refine List.ext_getElem hl fun i h1 h2 => ?_
    have := h i (List.mem_range.2 h1)
    rw [List.getElem?_eq_getElem h1, List.getElem?_eq_getElem h2] at this
    exact (sameR_iff _ _).1 this
  · rintro rfl
    refine ⟨rfl, fun i hi => ?_⟩
    rw [List.getElem?_eq_getElem (List.mem_range.1 hi)]
    exact (sameR_iff _ _).2 rfl
theorem sameRs_len {rs ss : List R} (h : rs.length ≠ ss.length) : sameRs rs ss = false := by
  cases hs : sameRs rs ss with
  | false => rfl
  | true => rw [(sameRs_iff rs ss).1 hs] at h; exact absurd rfl h
theorem sameRs_no {rs ss : List R} {k : Nat} {a b : R} (ha : rs[k]? = some a) (hb : ss[k]? = some b) (h : sameR a b = false) : sameRs rs ss = false := by
  cases hs : sameRs rs ss with
  | false => rfl
  | true =>
    rw [(sameRs_iff rs ss).1 hs, hb] at ha
    simp at ha
    rw [(sameR_iff a b).2 ha.symm] at h
    cases h
theorem sameRs_up {rs ss : List R} {k : Nat} {a b : R} (ha : rs[k]? = some a) (hb : ss[k]? = some b) (h : sameR a b = true) (hk : rs.take k = ss.take k) : rs.take (k + 1) = ss.take (k + 1) := by
  rw [List.take_add_one, List.take_add_one, ha, hb, hk, (sameR_iff a b).1 h]
end Go.Proofs.YtgjhnkadfdcafaaDoor

/- What phoenixsee.Is answers of no error and of the errors of package api. -/
namespace Go.Proofs.YtgjhnkadfdcafaaDoor
open Go.RowKit
set_option linter.unusedVariables false

/-- All eighteen, by their places in the document's list. -/
def all18 : List Nat := [0, 1, 2, 3, 4, 5, 6, 7, 8, 9, 10, 11, 12, 13, 14, 15, 16, 17]
theorem mem18 {i : Nat} (h : i < 18) : i ∈ all18 := by
  unfold all18
  simp only [List.mem_cons, List.not_mem_nil, or_false]
  omega
set_option maxHeartbeats 400000 in
theorem bare_any (c : Int) (w : World) : Calls Tryd.prog 49 #[.int .i64 c] w fun e w' => e = .returned (.agg #[.int .i64 c, .bool false, .int .i64 0]) ∧ w' = w.alloc (.cells #[.int .i64 c, .bool false, .int .i64 0] 57) := by
  go_enter Tryd.func49, Tryd.ntmps49
  go_wp2_with fail
  exact bodyPost_ret (v := .agg #[.int .i64 c, .bool false, .int .i64 0]) (by simp [results, Tryd.results49, go_sem]) rfl ⟨rfl, rfl⟩
set_option maxHeartbeats 400000 in
theorem sameFault_any (c : Int) (w : World) : Calls Tryd.prog 46 #[.agg #[.int .i64 c, .bool false, .int .i64 0], .agg #[.int .i64 c, .bool false, .int .i64 0]] w fun e w' => e = .returned (.bool true) ∧ Below w.heap.size w w' := by
  go_enter Tryd.func46, Tryd.ntmps46
  go_wp2_with fail
  go_ret
  exact ⟨rfl, ((Below.refl _ _).alloc (Nat.le_refl _) _).alloc (by simp) _⟩
theorem Tryd.cmp120 : (Tryd.prog.info? 120).map (·.comparable) = some true := by kernel_rfl
theorem Tryd.sz137 : (Tryd.prog.info? 137).map (·.size) = some 1 := by kernel_rfl
theorem eql_same (x : Addr) (w : World) : (binOp .eql 33 (.iface 120 (.pointer (some x))) (.iface 120 (.pointer (some x)))).run Tryd.prog w = .ok (.bool true) w := by
  obtain ⟨i, hi, hc⟩ := Option.map_eq_some_iff.1 Tryd.cmp120
  obtain ⟨j, hj, _⟩ := Option.map_eq_some_iff.1 Tryd.sz137
  exact run_eql_iface_ptr_same w x Tryd.underlying33 Tryd.underlying120 hi hc hj
theorem eql_other {x y : Addr} {w : World} {c c' : Array Value} {t t' : TypeId} (hne : x ≠ y) (hx : w.heap[x.block]? = some (.cells c t (0, 0))) (hy : w.heap[y.block]? = some (.cells c' t' (0, 0))) : (binOp .eql 33 (.iface 120 (.pointer (some x))) (.iface 120 (.pointer (some y)))).run Tryd.prog w = .ok (.bool false) w := by
  obtain ⟨i, hi, hc⟩ := Option.map_eq_some_iff.1 Tryd.cmp120
  obtain ⟨j, hj, hs⟩ := Option.map_eq_some_iff.1 Tryd.sz137
  exact run_eql_iface_ptr_other w Tryd.underlying33 Tryd.underlying120 hi hc hj (by rw [hs]; decide) hne hx hy
set_option maxHeartbeats 400000 in
theorem alike_same (x : Addr) (w : World) : Calls Tryd.prog 74 #[errV x, errV x] w fun e w' => e = .returned (.bool true) ∧ w' = w := by
  unfold errV
  have he := eql_same x w
  go_enter Tryd.func74, Tryd.ntmps74
  go_wp2_with fail
  go_ret
  exact ⟨rfl, rfl⟩
set_option maxHeartbeats 400000 in
theorem alike_other (x y : Addr) (w : World) {c c' : Array Value} {t t' : TypeId} (hne : x ≠ y) (hx : w.heap[x.block]? = some (.cells c t (0, 0))) (hy : w.heap[y.block]? = some (.cells c' t' (0, 0))) : Calls Tryd.prog 74 #[errV x, errV y] w fun e w' => e = .returned (.bool false) ∧ w' = w := by
  unfold errV
  have he := eql_other hne hx hy
  clear hne hx hy
  go_enter Tryd.func74, Tryd.ntmps74
  go_wp2_with fail
  go_ret
  exact ⟨rfl, rfl⟩
/-- The list of all errors, as a block. -/
def errBlock (a : Nat → Addr) : Obj := .cells #[errV (a 0), errV (a 1), errV (a 2), errV (a 3), errV (a 4), errV (a 5), errV (a 6), errV (a 7), errV (a 8), errV (a 9), errV (a 10), errV (a 11), errV (a 12), errV (a 13), errV (a 14), errV (a 15), errV (a 16), errV (a 17)] 33
set_option maxHeartbeats 400000 in
theorem sentinels_any (w : World) (a : Nat → Addr) (h : ErrsOf w all18 a) : Calls Tryd.prog 73 #[] w fun e w' => e = .returned (.slice (some ⟨w.heap.size, 0, none⟩) 18 18) ∧ w' = w.alloc (errBlock a) := by
  have h0 := h.var 0 (g := 2) (mem18 (by omega)) rfl; have h1 := h.var 1 (g := 1) (mem18 (by omega)) rfl; have h2 := h.var 2 (g := 3) (mem18 (by omega)) rfl; have h3 := h.var 3 (g := 6) (mem18 (by omega)) rfl; have h4 := h.var 4 (g := 5) (mem18 (by omega)) rfl; have h5 := h.var 5 (g := 7) (mem18 (by omega)) rfl
  have h6 := h.var 6 (g := 8) (mem18 (by omega)) rfl; have h7 := h.var 7 (g := 4) (mem18 (by omega)) rfl; have h8 := h.var 8 (g := 0) (mem18 (by omega)) rfl; have h9 := h.var 9 (g := 9) (mem18 (by omega)) rfl; have h10 := h.var 10 (g := 10) (mem18 (by omega)) rfl; have h11 := h.var 11 (g := 11) (mem18 (by omega)) rfl
  have h12 := h.var 12 (g := 12) (mem18 (by omega)) rfl; have h13 := h.var 13 (g := 13) (mem18 (by omega)) rfl; have h14 := h.var 14 (g := 14) (mem18 (by omega)) rfl; have h15 := h.var 15 (g := 15) (mem18 (by omega)) rfl; have h16 := h.var 16 (g := 16) (mem18 (by omega)) rfl; have h17 := h.var 17 (g := 17) (mem18 (by omega)) rfl
  clear h
  unfold errBlock
  unfold errV at *
  go_enter Tryd.func73, Tryd.ntmps73
  go_wp2_with fail
  go_ret
  exact ⟨rfl, rfl⟩
theorem err_at {w : World} {a : Nat → Addr} (i : Nat) (hi : i < 18) : (w.alloc (errBlock a)).cell? ⟨w.heap.size, i, none⟩ = some (errV (a i)) := by
  rw [cell_row (heap_alloc_new w (errBlock a))]
  rcases (show i = 0 ∨ i = 1 ∨ i = 2 ∨ i = 3 ∨ i = 4 ∨ i = 5 ∨ i = 6 ∨ i = 7 ∨ i = 8 ∨ i = 9 ∨ i = 10 ∨ i = 11 ∨ i = 12 ∨ i = 13 ∨ i = 14 ∨ i = 15 ∨ i = 16 ∨ i = 17 by omega) with rfl | rfl | rfl | rfl | rfl | rfl | rfl | rfl | rfl | rfl | rfl | rfl | rfl | rfl | rfl | rfl | rfl | rfl <;> rfl
set_option maxHeartbeats 1000000 in
theorem sentinel_any (w : World) (a : Nat → Addr) (i : Nat) (hi : i < 18) (h : ErrsOf w all18 a) : Calls Tryd.prog 65 #[errV (a i)] w fun e w' => e = .returned (.int .i64 (101 + (i : Int))) ∧ w' = w.alloc (errBlock a) := by
  have HE := hide h
  have H2 := hide (h.step ((Below.refl _ _).alloc (Nat.le_refl _) (errBlock a)))
  clear h
  go_enter Tryd.func65, Tryd.ntmps65
  go_wp2_with fail
  refine (sentinels_any w a HE.out).mono ?_
  rintro e w1 ⟨rfl, rfl⟩
  go_wp2_with fail
  go_loop [4] (fun v => ∃ k : Nat, k ≤ i ∧ v = .int .i64 k) (fun v => 18 - (intOf v).toNat)
  case atStart => exact ⟨0, by omega, rfl⟩
  case round =>
    obtain ⟨k, hk, rfl⟩ := hrel
    have hc := err_at (w := w) (a := a) k (by omega)
    have hki : (k : Int) < 18 := by omega
    by_cases e : k = i
    · subst e
      go_wp2_with fail
      refine (alike_same _ _).mono ?_
      rintro e w1 ⟨rfl, rfl⟩
      go_wp2_with fail
      go_ret
      exact ⟨rfl, rfl⟩
    · have hne : a i ≠ a k := by
        exact HE.out.ne i (mem18 (by omega)) k (mem18 (by omega)) (fun h => e h.symm)
      obtain ⟨c, t, hr⟩ := H2.out.row i (mem18 (by omega))
      obtain ⟨c', t', hr'⟩ := H2.out.row k (mem18 (by omega))
      have HR := hide hr
      have HR' := hide hr'
      have HN := hide hne
      clear hr hr' hne
      go_wp2_with fail
      refine (alike_other _ _ _ HN.out HR.out HR'.out).mono ?_
      rintro e w1 ⟨rfl, rfl⟩
      go_wp2_with fail
      go_round
      case rel => exact ⟨k + 1, by omega, by go_num⟩
      case measure => simp [intOf]; omega
theorem Tryd.zero98 : (Tryd.prog.info? 98).map (·.zero) = some (some (.pointer none)) := by kernel_rfl
theorem assert_other (v : Value) (w : World) : (Instr.typeAssert (.iface 120 v) 33 98 true).run Tryd.prog w = .ok (.tuple #[.pointer none, .bool false]) w := by
  obtain ⟨j, hj, hz⟩ := Option.map_eq_some_iff.1 Tryd.zero98
  simp [Instr.typeAssert, run_underlying Tryd.underlying98, zeroValue, typeInfo, hj, hz]
set_option maxHeartbeats 1000000 in
theorem fault_err (w : World) (a : Nat → Addr) (i : Nat) (hi : i < 18) (h : ErrsOf w all18 a) : Calls Tryd.prog 47 #[errV (a i)] w fun e w' => e = .returned (.agg #[.int .i64 (101 + (i : Int)), .bool false, .int .i64 0]) ∧ Below w.heap.size w w' := by
  have HE2 := hide (h.step ((Below.refl _ _).alloc (Nat.le_refl _) (.cells #[.int .i64 0, .bool false, .int .i64 0] 57)))
  clear h
  have hta := assert_other
  show Calls Tryd.prog 47 #[.iface 120 (.pointer (some (a i)))] w _
  go_enter Tryd.func47, Tryd.ntmps47
  go_wp2_with fail
  refine (sentinel_any _ a i hi HE2.out).mono ?_
  rintro e w1 ⟨rfl, rfl⟩
  go_wp2_with fail
  refine (bare_any _ _).mono ?_
  rintro e w1 ⟨rfl, rfl⟩
  go_wp2_with fail
  exact bodyPost_ret (v := .agg #[.int .i64 (101 + (i : Int)), .bool false, .int .i64 0]) (by simp [results, Tryd.results47, go_sem]) rfl ⟨rfl, (((Below.refl _ _).alloc (Nat.le_refl _) _).alloc (by simp) _).alloc (by simp; omega) _⟩
set_option maxHeartbeats 1000000 in
theorem same_err (w : World) (a : Nat → Addr) (i : Nat) (hi : i < 18) (h : ErrsOf w all18 a) : Calls Tryd.prog 26 #[errV (a i), .agg #[.int .i64 (101 + (i : Int)), .bool false, .int .i64 0]] w fun e w' => e = .returned (.bool true) ∧ Below w.heap.size w w' := by
  obtain ⟨c, hc⟩ : ∃ c, c = 101 + (i : Int) := ⟨_, rfl⟩
  have HC := hide hc
  rw [← hc]
  obtain ⟨W, hW⟩ : ∃ W, W = w.alloc (.cells #[.int .i64 c, .bool false, .int .i64 0] 57) := ⟨_, rfl⟩
  have hWr : W.heap[w.heap.size]? = some (.cells #[.int .i64 c, .bool false, .int .i64 0] 57 (0, 0)) := by rw [hW]; exact heap_alloc_new _ _
  have HB : Hid (Below w.heap.size w W) := by show Below _ _ _; rw [hW]; exact (Below.refl _ _).alloc (Nat.le_refl _) _
  have HE := hide (h.step HB.out)
  have HWR := hide hWr
  have h0 : W.cell? ⟨w.heap.size, 0, none⟩ = some (.int .i64 c) := by rw [cell_row hWr]; rfl
  have h1 : W.cell? ⟨w.heap.size, 1, none⟩ = some (.bool false) := by rw [cell_row hWr]; rfl
  have h2 : W.cell? ⟨w.heap.size, 2, none⟩ = some (.int .i64 0) := by rw [cell_row hWr]; rfl
  have hlt := lt_of_block hWr
  have HL0 : Hid ((⟨w.heap.size, 0, none⟩ : Addr).block < W.drew.heap.size) := hlt
  have HL1 : Hid ((⟨w.heap.size, 1, none⟩ : Addr).block < W.drew.heap.size) := hlt
  have HL2 : Hid ((⟨w.heap.size, 2, none⟩ : Addr).block < W.drew.heap.size) := hlt
  have HW := hide hW
  clear h hc hWr hW hlt
  go_enter Tryd.func26, Tryd.ntmps26
  go_wp2_with fail
  rw [← HW.out]
  go_region_held3 (fun w' => w'.cell? ⟨w.heap.size, 0, none⟩ = some (.int .i64 c) ∧ w'.cell? ⟨w.heap.size, 1, none⟩ = some (.bool false) ∧ w'.cell? ⟨w.heap.size, 2, none⟩ = some (.int .i64 0)) (first | go_keep | (refine ⟨?_, ?_, ?_⟩ <;> assumption))
    (first
      | (go_at_call 47; refine (fault_err _ a i hi HE.out.drew).mono ?_; rintro e w2 ⟨rfl, hb2⟩; rw [← HC.out]; have hb2 := of_drew hb2; have k0 := (hb2.cell HL0.out).trans h0; have k1 := (hb2.cell HL1.out).trans h1; have k2 := (hb2.cell HL2.out).trans h2; have hs2 := hb2.size; have HB2 := hide hb2; clear hb2)
      | (go_at_call 46; refine (sameFault_any c _).mono ?_; rintro e w3 ⟨rfl, hb3⟩; have m0 := (hb3.cell (p := ⟨w.heap.size, 0, none⟩) (Nat.lt_of_lt_of_le HL0.out HB2.out.size)).trans k0; have m1 := (hb3.cell (p := ⟨w.heap.size, 1, none⟩) (Nat.lt_of_lt_of_le HL0.out HB2.out.size)).trans k1; have m2 := (hb3.cell (p := ⟨w.heap.size, 2, none⟩) (Nat.lt_of_lt_of_le HL0.out HB2.out.size)).trans k2; have HB3 := hide hb3; clear hb3))
  go_wp2_with fail
  go_ret
  exact ⟨rfl, over (over HB.out HB2.out HB.out.size) HB3.out (Nat.le_trans HB.out.size HB2.out.size)⟩
set_option maxHeartbeats 400000 in
theorem is_err (w : World) (a : Nat → Addr) (i : Nat) (hi : i < 18) (c : Int) (hc : c = 101 + (i : Int)) (h : ErrsOf w all18 a) : Calls Tryd.prog 29 #[errV (a i), .int .i64 c] w fun e w' => e = .returned (.bool true) ∧ Below w.heap.size w w' := by
  have HE := hide (h.step ((Below.refl _ _).alloc (Nat.le_refl _) (.cells #[.int .i64 c, .bool false, .int .i64 0] 57)))
  have HC := hide hc
  clear h hc
  go_enter Tryd.func29, Tryd.ntmps29
  go_wp2_with fail
  refine (bare_any _ _).mono ?_
  rintro e w1 ⟨rfl, rfl⟩
  go_wp2_with fail
  rw [HC.out] at HE ⊢
  refine (same_err _ a i hi HE.out).mono ?_
  rintro e w2 ⟨rfl, hb⟩
  have HB := hide hb
  clear hb
  go_wp2_with fail
  go_ret
  exact ⟨rfl, over ((Below.refl _ _).alloc (Nat.le_refl _) _) HB.out (by simp)⟩
set_option maxHeartbeats 400000 in
theorem none_any (w : World) : Calls Tryd.prog 48 #[] w fun e w' => e = .returned (.agg #[.int .i64 0, .bool false, .int .i64 0]) ∧ w' = w.alloc (.cells #[.int .i64 0, .bool false, .int .i64 0] 57) := by
  go_enter Tryd.func48, Tryd.ntmps48
  go_wp2_with fail
  exact bodyPost_ret (v := .agg #[.int .i64 0, .bool false, .int .i64 0]) (by simp [results, Tryd.results48, go_sem]) rfl ⟨rfl, rfl⟩
set_option maxHeartbeats 400000 in
theorem fault_nil (w : World) : Calls Tryd.prog 47 #[.nilIface] w fun e w' => e = .returned (.agg #[.int .i64 0, .bool false, .int .i64 0]) ∧ Below w.heap.size w w' := by
  go_enter Tryd.func47, Tryd.ntmps47
  go_wp2_with fail
  refine (none_any _).mono ?_
  rintro e w1 ⟨rfl, rfl⟩
  go_wp2_with fail
  exact bodyPost_ret (v := .agg #[.int .i64 0, .bool false, .int .i64 0]) (by simp [results, Tryd.results47, go_sem]) rfl ⟨rfl, ((Below.refl _ _).alloc (Nat.le_refl _) _).alloc (by simp) _⟩
set_option maxHeartbeats 1000000 in
theorem same_nil (w : World) : Calls Tryd.prog 26 #[.nilIface, .agg #[.int .i64 0, .bool false, .int .i64 0]] w fun e w' => e = .returned (.bool true) ∧ Below w.heap.size w w' := by
  obtain ⟨W, hW⟩ : ∃ W, W = w.alloc (.cells #[.int .i64 0, .bool false, .int .i64 0] 57) := ⟨_, rfl⟩
  have hWr : W.heap[w.heap.size]? = some (.cells #[.int .i64 0, .bool false, .int .i64 0] 57 (0, 0)) := by rw [hW]; exact heap_alloc_new _ _
  have HB : Hid (Below w.heap.size w W) := by show Below _ _ _; rw [hW]; exact (Below.refl _ _).alloc (Nat.le_refl _) _
  have HWR := hide hWr
  have h0 : W.cell? ⟨w.heap.size, 0, none⟩ = some (.int .i64 0) := by rw [cell_row hWr]; rfl
  have h1 : W.cell? ⟨w.heap.size, 1, none⟩ = some (.bool false) := by rw [cell_row hWr]; rfl
  have h2 : W.cell? ⟨w.heap.size, 2, none⟩ = some (.int .i64 0) := by rw [cell_row hWr]; rfl
  have hlt := lt_of_block hWr
  have HL0 : Hid ((⟨w.heap.size, 0, none⟩ : Addr).block < W.drew.heap.size) := hlt
  have HL1 : Hid ((⟨w.heap.size, 1, none⟩ : Addr).block < W.drew.heap.size) := hlt
  have HL2 : Hid ((⟨w.heap.size, 2, none⟩ : Addr).block < W.drew.heap.size) := hlt
  have HW := hide hW
  clear hWr hW hlt
  go_enter Tryd.func26, Tryd.ntmps26
  go_wp2_with fail
  rw [← HW.out]
  go_region_held3 (fun w' => w'.cell? ⟨w.heap.size, 0, none⟩ = some (.int .i64 0) ∧ w'.cell? ⟨w.heap.size, 1, none⟩ = some (.bool false) ∧ w'.cell? ⟨w.heap.size, 2, none⟩ = some (.int .i64 0)) (first | go_keep | (refine ⟨?_, ?_, ?_⟩ <;> assumption))
    (first
      | (go_at_call 47; refine (fault_nil _).mono ?_; rintro e w2 ⟨rfl, hb2⟩; have hb2 := of_drew hb2; have k0 := (hb2.cell HL0.out).trans h0; have k1 := (hb2.cell HL1.out).trans h1; have k2 := (hb2.cell HL2.out).trans h2; have hs2 := hb2.size; have HB2 := hide hb2; clear hb2)
      | (go_at_call 46; refine (sameFault_any 0 _).mono ?_; rintro e w3 ⟨rfl, hb3⟩; have m0 := (hb3.cell (p := ⟨w.heap.size, 0, none⟩) (Nat.lt_of_lt_of_le HL0.out HB2.out.size)).trans k0; have m1 := (hb3.cell (p := ⟨w.heap.size, 1, none⟩) (Nat.lt_of_lt_of_le HL0.out HB2.out.size)).trans k1; have m2 := (hb3.cell (p := ⟨w.heap.size, 2, none⟩) (Nat.lt_of_lt_of_le HL0.out HB2.out.size)).trans k2; have HB3 := hide hb3; clear hb3))
  go_wp2_with fail
  go_ret
  exact ⟨rfl, over (over HB.out HB2.out HB.out.size) HB3.out (Nat.le_trans HB.out.size HB2.out.size)⟩
set_option maxHeartbeats 400000 in
theorem is_ok (w : World) : Calls Tryd.prog 29 #[.nilIface, .int .i64 0] w fun e w' => e = .returned (.bool true) ∧ Below w.heap.size w w' := by
  go_enter Tryd.func29, Tryd.ntmps29
  go_wp2_with fail
  refine (bare_any _ _).mono ?_
  rintro e w1 ⟨rfl, rfl⟩
  go_wp2_with fail
  refine (same_nil _).mono ?_
  rintro e w2 ⟨rfl, hb⟩
  have HB := hide hb
  clear hb
  go_wp2_with fail
  go_ret
  exact ⟨rfl, over ((Below.refl _ _).alloc (Nat.le_refl _) _) HB.out (by simp)⟩
end Go.Proofs.YtgjhnkadfdcafaaDoor
