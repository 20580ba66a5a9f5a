
/- What rec.Bytes answers: ErrRange of a record that may not be; else its forty bytes, in new memory. -/
import Derived.Test.YticaldoggdfjiaaDoorRecCheck
namespace Go.Proofs.YticaldoggdfjiaaDoor
open Go.RowKit
set_option linter.unusedVariables false

/-- A list and an error, as what a function hands back. -/
theorem bytes_len (l cap : Nat) (ao : Option Addr) (xs : List Int) (a s n : Int) (w : World) (h : Row w ao xs) (hl : xs.length = l) (ha : -9223372036854775808 ≤ a) (ha' : a ≤ 9223372036854775807) (hn : 0 ≤ n) (hn' : n ≤ 18446744073709551615) :
    Calls Tryd.prog 34 #[.slice ao l cap, .int .i64 a, .int .i64 s, .int .u64 n] w fun e w' => e = .returned (.slice (some ⟨w.heap.size, 0, none⟩) l l) ∧ Own w' w.heap.size (some ⟨w.heap.size, 0, none⟩) l (putB xs a n (widthB s).toNat) ∧ Below w.heap.size w w' := by subst hl; exact put_any ao cap xs a s n w h ha ha' hn hn'
theorem fill_nil : fillB [] 40 = List.replicate 40 0 := by decide
theorem u64_wrap (n : Int) : IntKind.u64.wrap n = u64 n := by rw [IntKind.wrap_u64]; rfl
/-- A record lies in memory, cell by cell. -/
structure Cells10 (w : World) (B : Nat) (r : R) : Prop where
  c0 : w.cell? ⟨B, 0, none⟩ = some (.int .i64 r.kind)
  c1 : w.cell? ⟨B, 1, none⟩ = some (.int .i64 r.txn)
  c2 : w.cell? ⟨B, 2, none⟩ = some (.int .i64 r.page)
  c3 : w.cell? ⟨B, 3, none⟩ = some (.int .i64 r.prev)
  c4 : w.cell? ⟨B, 4, none⟩ = some (.int .i64 r.next)
  c5 : w.cell? ⟨B, 5, none⟩ = some (.int .i64 r.key)
  c6 : w.cell? ⟨B, 6, none⟩ = some (.bool r.had)
  c7 : w.cell? ⟨B, 7, none⟩ = some (.bool r.has)
  c8 : w.cell? ⟨B, 8, none⟩ = some (.int .i64 r.old)
  c9 : w.cell? ⟨B, 9, none⟩ = some (.int .i64 r.new)
  lt : B < w.heap.size
theorem Cells10.below {w w' : World} {B n : Nat} {r : R} (h : Cells10 w B r) (hb : Below n w w') (hn : w.heap.size ≤ n) : Cells10 w' B r := by
  have hl := h.lt
  have h0 : ∀ o, w'.cell? ⟨B, o, none⟩ = w.cell? ⟨B, o, none⟩ := fun o => hb.cell (show B < n by omega)
  exact ⟨(h0 _).trans h.c0, (h0 _).trans h.c1, (h0 _).trans h.c2, (h0 _).trans h.c3, (h0 _).trans h.c4, (h0 _).trans h.c5, (h0 _).trans h.c6, (h0 _).trans h.c7, (h0 _).trans h.c8, (h0 _).trans h.c9, Nat.lt_of_lt_of_le hl hb.size⟩
/-- A record's block. -/
def recCells (r : R) : Obj := .cells #[.int .i64 r.kind, .int .i64 r.txn, .int .i64 r.page, .int .i64 r.prev, .int .i64 r.next, .int .i64 r.key, .bool r.had, .bool r.has, .int .i64 r.old, .int .i64 r.new] 23
theorem cells10_new (w : World) (r : R) : Cells10 (w.alloc (recCells r)) w.heap.size r := by
  unfold recCells
  constructor <;> simp

set_option maxHeartbeats 1000000 in
theorem recBytes_bad (r : R) (w : World) (x : Addr) (hE : w.cell? ⟨0, 0, none⟩ = some (errV x)) (hg : goodB r = false) :
    Calls Tryd.prog 14 #[r.val] w fun e w' => e = .returned (.tuple #[.slice none 0 0, errV x]) ∧ Below w.heap.size w w' := by
  have HE2 : Hid ((w.alloc (recCells r)).cell? ⟨0, 0, none⟩ = some (errV x)) := ((below_box w (recCells r)).cell (World.block_lt_of_cell? w _ hE)).trans hE
  have HB := hide (below_box w (recCells r))
  unfold recCells at HE2 HB
  clear hE
  show Calls Tryd.prog 14 #[.agg #[.int .i64 r.kind, .int .i64 r.txn, .int .i64 r.page, .int .i64 r.prev, .int .i64 r.next, .int .i64 r.key, .bool r.had, .bool r.has, .int .i64 r.old, .int .i64 r.new]] w _
  go_enter Tryd.func14, Tryd.ntmps14
  go_wp2_with fail
  refine (check_any r _ x HE2.out).mono ?_
  rintro e w2 ⟨rfl, hb2⟩
  rw [checkV_bad hg]
  have HB2 := hide (over HB.out hb2 HB.out.size)
  clear hb2
  unfold errV
  go_wp2_with fail
  go_ret2
  exact ⟨rfl, HB2.out⟩
set_option maxHeartbeats 4000000 in
theorem recBytes_good (r : R) (w : World) (x : Addr) (hE : w.cell? ⟨0, 0, none⟩ = some (errV x)) (hg : goodB r = true) :
    Calls Tryd.prog 14 #[r.val] w fun e w' => ∃ g, e = .returned (.tuple #[.slice (some ⟨g, 0, none⟩) 40 40, .nilIface]) ∧ w.heap.size ≤ g ∧ Own w' g (some ⟨g, 0, none⟩) 40 (recB r) ∧ Below w.heap.size w w' := by
  have HE2 : Hid ((w.alloc (recCells r)).cell? ⟨0, 0, none⟩ = some (errV x)) := ((below_box w (recCells r)).cell (World.block_lt_of_cell? w _ hE)).trans hE
  have HB := hide (below_box w (recCells r))
  have HC := hide (cells10_new w r)
  unfold recCells at HE2 HB HC
  obtain ⟨⟨s0, s1⟩, ⟨t0, t1⟩, ⟨p0, p1⟩, ⟨v0, v1⟩, ⟨n0, n1⟩, ⟨y0, y1⟩⟩ := R.small hg
  clear hE
  show Calls Tryd.prog 14 #[.agg #[.int .i64 r.kind, .int .i64 r.txn, .int .i64 r.page, .int .i64 r.prev, .int .i64 r.next, .int .i64 r.key, .bool r.had, .bool r.has, .int .i64 r.old, .int .i64 r.new]] w _
  go_enter Tryd.func14, Tryd.ntmps14
  go_wp2_with fail
  refine (check_any r _ x HE2.out).mono ?_
  rintro e w2 ⟨rfl, hb⟩
  rw [checkV_good hg]
  replace HC := hide (HC.out.below hb (Nat.le_refl _))
  replace HB := hide (over HB.out hb HB.out.size)
  clear hb HE2
  go_wp2_with fail
  refine (fill_any none 0 [] 40 _ (row_nil _) (by omega)).mono ?_
  rintro e w3 ⟨rfl, hown, hb⟩
  rw [fill_nil, List.length_replicate] at hown ⊢
  have HO := hide hown
  replace HC := hide (HC.out.below hb (Nat.le_refl _))
  replace HB := hide (over HB.out hb HB.out.size)
  clear hown hb
  have k := HC.out.c0
  go_wp2_with fail
  clear k
  refine (bytes_len 40 40 _ (List.replicate 40 0) _ _ (r.kind) _ HO.out.row (List.length_replicate ..) (by omega) (by omega) (by omega) (by omega)).mono ?_
  rintro e wp ⟨rfl, hown, hb⟩
  replace HO : Hid (Own wp _ _ 40 (rec1 r)) := hown
  replace HC := hide (HC.out.below hb (Nat.le_refl _))
  have HS := hide HB.out.size
  replace HB := hide (over HB.out hb HB.out.size)
  clear hown hb
  obtain ⟨k0, k1, k2, k3, k4, k5, k6, k7, k8, k9, kl⟩ := HC.out
  go_wp2_with fail
  clear k0 k1 k2 k3 k4 k5 k6 k7 k8 k9 kl
  refine (marks_any r _).mono ?_
  rintro e wm ⟨rfl, hb⟩
  replace HO := hide (HO.out.below hb (Nat.le_refl _))
  replace HC := hide (HC.out.below hb (Nat.le_refl _))
  replace HB := hide (over HB.out hb HB.out.size)
  clear hb
  go_wp2_with fail
  refine (bytes_len 40 40 _ (rec1 r) _ _ (markB r) _ HO.out.row (length_rec1 r) (by omega) (by omega) (markB_bd r).1 (Int.le_trans (markB_bd r).2 (by omega))).mono ?_
  rintro e wp ⟨rfl, hown, hb⟩
  replace HO : Hid (Own wp _ _ 40 (rec2 r)) := hown
  replace HC := hide (HC.out.below hb (Nat.le_refl _))
  have HS := hide HB.out.size
  replace HB := hide (over HB.out hb HB.out.size)
  clear hown hb
  have k := HC.out.c1
  go_wp2_with fail
  clear k
  refine (bytes_len 40 40 _ (rec2 r) _ _ (r.txn) _ HO.out.row (length_rec2 r) (by omega) (by omega) (by omega) (by omega)).mono ?_
  rintro e wp ⟨rfl, hown, hb⟩
  replace HO : Hid (Own wp _ _ 40 (rec3 r)) := hown
  replace HC := hide (HC.out.below hb (Nat.le_refl _))
  have HS := hide HB.out.size
  replace HB := hide (over HB.out hb HB.out.size)
  clear hown hb
  have k := HC.out.c2
  go_wp2_with fail
  clear k
  refine (bytes_len 40 40 _ (rec3 r) _ _ (r.page) _ HO.out.row (length_rec3 r) (by omega) (by omega) (by omega) (by omega)).mono ?_
  rintro e wp ⟨rfl, hown, hb⟩
  replace HO : Hid (Own wp _ _ 40 (rec4 r)) := hown
  replace HC := hide (HC.out.below hb (Nat.le_refl _))
  have HS := hide HB.out.size
  replace HB := hide (over HB.out hb HB.out.size)
  clear hown hb
  have k := HC.out.c3
  go_wp2_with fail
  clear k
  refine (bytes_len 40 40 _ (rec4 r) _ _ (r.prev) _ HO.out.row (length_rec4 r) (by omega) (by omega) (by omega) (by omega)).mono ?_
  rintro e wp ⟨rfl, hown, hb⟩
  replace HO : Hid (Own wp _ _ 40 (rec5 r)) := hown
  replace HC := hide (HC.out.below hb (Nat.le_refl _))
  have HS := hide HB.out.size
  replace HB := hide (over HB.out hb HB.out.size)
  clear hown hb
  have k := HC.out.c4
  go_wp2_with fail
  clear k
  refine (bytes_len 40 40 _ (rec5 r) _ _ (r.next) _ HO.out.row (length_rec5 r) (by omega) (by omega) (by omega) (by omega)).mono ?_
  rintro e wp ⟨rfl, hown, hb⟩
  replace HO : Hid (Own wp _ _ 40 (rec6 r)) := hown
  replace HC := hide (HC.out.below hb (Nat.le_refl _))
  have HS := hide HB.out.size
  replace HB := hide (over HB.out hb HB.out.size)
  clear hown hb
  have k := HC.out.c5
  go_wp2_with fail
  clear k
  refine (bytes_len 40 40 _ (rec6 r) _ _ (r.key) _ HO.out.row (length_rec6 r) (by omega) (by omega) (by omega) (by omega)).mono ?_
  rintro e wp ⟨rfl, hown, hb⟩
  replace HO : Hid (Own wp _ _ 40 (rec7 r)) := hown
  replace HC := hide (HC.out.below hb (Nat.le_refl _))
  have HS := hide HB.out.size
  replace HB := hide (over HB.out hb HB.out.size)
  clear hown hb
  have k := HC.out.c8
  go_wp2_with fail
  rw [u64_wrap]
  clear k
  refine (bytes_len 40 40 _ (rec7 r) _ _ (u64 r.old) _ HO.out.row (length_rec7 r) (by omega) (by omega) (u64_bd _).1 (u64_bd _).2).mono ?_
  rintro e wp ⟨rfl, hown, hb⟩
  replace HO : Hid (Own wp _ _ 40 (rec8 r)) := hown
  replace HC := hide (HC.out.below hb (Nat.le_refl _))
  have HS := hide HB.out.size
  replace HB := hide (over HB.out hb HB.out.size)
  clear hown hb
  have k := HC.out.c9
  go_wp2_with fail
  rw [u64_wrap]
  clear k
  refine (bytes_len 40 40 _ (rec8 r) _ _ (u64 r.new) _ HO.out.row (length_rec8 r) (by omega) (by omega) (u64_bd _).1 (u64_bd _).2).mono ?_
  rintro e wp ⟨rfl, hown, hb⟩
  replace HO : Hid (Own wp _ _ 40 (recB r)) := hown
  replace HC := hide (HC.out.below hb (Nat.le_refl _))
  have HS := hide HB.out.size
  replace HB := hide (over HB.out hb HB.out.size)
  clear hown hb
  go_wp2_with fail
  go_ret2
  exact ⟨_, rfl, HS.out, HO.out, HB.out⟩
end Go.Proofs.YticaldoggdfjiaaDoor
