/- Lemmas and contracts that the law stands on, joined: RecRefB. -/
import Derived.Test.YtjacenhblclkaaaGreatDoorJoin7
import Derived.Test.YtjacenhblclkaaaGreatDoorJoin4
import Derived.Test.YtjacenhblclkaaaGreatDoorJoin8
/- What the document's own RecBytes answers: the same as rec.Bytes. -/
namespace Go.Proofs.YtjacenhblclkaaaGreatDoor
open Go.RowKit
set_option linter.unusedVariables false

theorem refPut_len (l cap : Nat) (ao : Option Addr) (xs : List Int) (a s n : Int) (w : World) (h : Row w ao xs) (hl : xs.length = l) (ha : -9223372036854775808 ≤ a) (ha' : a ≤ 9223372036854775807) (hn : 0 ≤ n) (hn' : n ≤ 18446744073709551615) :
    Calls Tryz.prog 121 #[.slice ao l cap, .int .i64 a, .int .i64 s, .int .u64 n] w fun e w' => e = .returned (.slice (some ⟨w.heap.size, 0, none⟩) l l) ∧ Own w' w.heap.size (some ⟨w.heap.size, 0, none⟩) l (putB xs a n (widthB s).toNat) ∧ Below w.heap.size w w' := by subst hl; exact refPut_any ao cap xs a s n w h ha ha' hn hn'
set_option maxHeartbeats 8000000 in
theorem refBytes_good (r : R) (w : World) (hg : goodB r = true) :
    Calls Tryz.prog 122 #[r.val] w fun e w' => ∃ g, e = .returned (.slice (some ⟨g, 0, none⟩) 40 40) ∧ w.heap.size ≤ g ∧ Own w' g (some ⟨g, 0, none⟩) 40 (recB r) ∧ Below w.heap.size w w' := by
  obtain ⟨i0, hi, hz0, hz1, hz2⟩ := info_parts Tryz.info5
  have HB := hide (below_box w (recCells r))
  have HC := hide (cells10_new w r)
  have HSZ : Hid (∀ X, (w.alloc X).heap.size = w.heap.size + 1) := hide (fun X => by simp)
  unfold recCells at HB HC
  obtain ⟨⟨s0, s1⟩, ⟨t0, t1⟩, ⟨p0, p1⟩, ⟨v0, v1⟩, ⟨n0, n1⟩, ⟨y0, y1⟩⟩ := R.small hg
  clear hg
  show Calls Tryz.prog 122 #[.agg #[.int .i64 r.kind, .int .i64 r.txn, .int .i64 r.page, .int .i64 r.prev, .int .i64 r.next, .int .i64 r.key, .bool r.had, .bool r.has, .int .i64 r.old, .int .i64 r.new]] w _
  cases hhad : r.had <;> cases hhas : r.has
  · rw [hhad, hhas] at HC HB
    go_enter Tryz.func122, Tryz.ntmps122
    go_wp2_with (at_make; refine wpList_make_full _ rfl (.const (.int .i64 40)) (.const (.int .i64 40)) 65 rfl (w.heap.size + 1) 5 i0 (.int .u8 0) 1 Tryz.underlying65 hi hz0 hz1 .i64 .i64 40 40 40 rfl rfl rfl rfl (by rw [hz2]; omega) (by unfold maxLen; omega) (by simp) ?_; intro wm hown hgr; have HO := hide (own_made hown (by omega)); have hbm := (Below.refl _ _).grown hgr (Nat.le_refl _) (by simp); replace HC := hide (HC.out.below hbm (Nat.le_refl _)); replace HB := hide (over HB.out hbm HB.out.size); have k := HC.out.c0; clear hown hgr hbm)
    clear k
    rw [HSZ.out] at HO
    refine (refPut_len 40 40 _ (List.replicate 40 0) _ _ (r.kind) _ HO.out.row (List.length_replicate ..) (by omega) (by omega) (by omega) (by omega)).mono ?_
    rintro e wp ⟨rfl, hown, hb⟩
    replace HO : Hid (Own wp _ _ 40 (rec1 r)) := hown
    replace HC := hide (HC.out.below hb (Nat.le_refl _))
    have HS := hide HB.out.size
    replace HB := hide (over HB.out hb HB.out.size)
    clear hown hb
    have k6 := HC.out.c6
    have k7 := HC.out.c7
    rw [hhad] at k6
    rw [hhas] at k7
    go_wp2_with fail
    clear k6 k7
    rw [show (0 : Int) = markB r by unfold markB; rw [hhad, hhas]; rfl]
    refine (refPut_len 40 40 _ (rec1 r) _ _ (markB r) _ HO.out.row (length_rec1 r) (by omega) (by omega) (markB_bd r).1 (Int.le_trans (markB_bd r).2 (by omega))).mono ?_
    rintro e wp ⟨rfl, hown, hb⟩
    replace HO : Hid (Own wp _ _ 40 (rec2 r)) := hown
    replace HC := hide (HC.out.below hb (Nat.le_refl _))
    have HS := hide HB.out.size
    replace HB := hide (over HB.out hb HB.out.size)
    clear hown hb
    have k := HC.out.c1
    go_wp2_with fail
    clear k
    refine (refPut_len 40 40 _ (rec2 r) _ _ (r.txn) _ HO.out.row (length_rec2 r) (by omega) (by omega) (by omega) (by omega)).mono ?_
    rintro e wp ⟨rfl, hown, hb⟩
    replace HO : Hid (Own wp _ _ 40 (rec3 r)) := hown
    replace HC := hide (HC.out.below hb (Nat.le_refl _))
    have HS := hide HB.out.size
    replace HB := hide (over HB.out hb HB.out.size)
    clear hown hb
    have k := HC.out.c2
    go_wp2_with fail
    clear k
    refine (refPut_len 40 40 _ (rec3 r) _ _ (r.page) _ HO.out.row (length_rec3 r) (by omega) (by omega) (by omega) (by omega)).mono ?_
    rintro e wp ⟨rfl, hown, hb⟩
    replace HO : Hid (Own wp _ _ 40 (rec4 r)) := hown
    replace HC := hide (HC.out.below hb (Nat.le_refl _))
    have HS := hide HB.out.size
    replace HB := hide (over HB.out hb HB.out.size)
    clear hown hb
    have k := HC.out.c3
    go_wp2_with fail
    clear k
    refine (refPut_len 40 40 _ (rec4 r) _ _ (r.prev) _ HO.out.row (length_rec4 r) (by omega) (by omega) (by omega) (by omega)).mono ?_
    rintro e wp ⟨rfl, hown, hb⟩
    replace HO : Hid (Own wp _ _ 40 (rec5 r)) := hown
    replace HC := hide (HC.out.below hb (Nat.le_refl _))
    have HS := hide HB.out.size
    replace HB := hide (over HB.out hb HB.out.size)
    clear hown hb
    have k := HC.out.c4
    go_wp2_with fail
    clear k
    refine (refPut_len 40 40 _ (rec5 r) _ _ (r.next) _ HO.out.row (length_rec5 r) (by omega) (by omega) (by omega) (by omega)).mono ?_
    rintro e wp ⟨rfl, hown, hb⟩
    replace HO : Hid (Own wp _ _ 40 (rec6 r)) := hown
    replace HC := hide (HC.out.below hb (Nat.le_refl _))
    have HS := hide HB.out.size
    replace HB := hide (over HB.out hb HB.out.size)
    clear hown hb
    have k := HC.out.c5
    go_wp2_with fail
    clear k
    refine (refPut_len 40 40 _ (rec6 r) _ _ (r.key) _ HO.out.row (length_rec6 r) (by omega) (by omega) (by omega) (by omega)).mono ?_
    rintro e wp ⟨rfl, hown, hb⟩
    replace HO : Hid (Own wp _ _ 40 (rec7 r)) := hown
    replace HC := hide (HC.out.below hb (Nat.le_refl _))
    have HS := hide HB.out.size
    replace HB := hide (over HB.out hb HB.out.size)
    clear hown hb
    have k := HC.out.c8
    go_wp2_with fail
    rw [u64_wrap]
    clear k
    refine (refPut_len 40 40 _ (rec7 r) _ _ (u64 r.old) _ HO.out.row (length_rec7 r) (by omega) (by omega) (u64_bd _).1 (u64_bd _).2).mono ?_
    rintro e wp ⟨rfl, hown, hb⟩
    replace HO : Hid (Own wp _ _ 40 (rec8 r)) := hown
    replace HC := hide (HC.out.below hb (Nat.le_refl _))
    have HS := hide HB.out.size
    replace HB := hide (over HB.out hb HB.out.size)
    clear hown hb
    have k := HC.out.c9
    go_wp2_with fail
    rw [u64_wrap]
    clear k
    refine (refPut_len 40 40 _ (rec8 r) _ _ (u64 r.new) _ HO.out.row (length_rec8 r) (by omega) (by omega) (u64_bd _).1 (u64_bd _).2).mono ?_
    rintro e wp ⟨rfl, hown, hb⟩
    replace HO : Hid (Own wp _ _ 40 (recB r)) := hown
    replace HC := hide (HC.out.below hb (Nat.le_refl _))
    have HS := hide HB.out.size
    replace HB := hide (over HB.out hb HB.out.size)
    clear hown hb
    go_wp2_with fail
    go_ret
    exact ⟨_, rfl, HS.out, HO.out, HB.out⟩
  · rw [hhad, hhas] at HC HB
    go_enter Tryz.func122, Tryz.ntmps122
    go_wp2_with (at_make; refine wpList_make_full _ rfl (.const (.int .i64 40)) (.const (.int .i64 40)) 65 rfl (w.heap.size + 1) 5 i0 (.int .u8 0) 1 Tryz.underlying65 hi hz0 hz1 .i64 .i64 40 40 40 rfl rfl rfl rfl (by rw [hz2]; omega) (by unfold maxLen; omega) (by simp) ?_; intro wm hown hgr; have HO := hide (own_made hown (by omega)); have hbm := (Below.refl _ _).grown hgr (Nat.le_refl _) (by simp); replace HC := hide (HC.out.below hbm (Nat.le_refl _)); replace HB := hide (over HB.out hbm HB.out.size); have k := HC.out.c0; clear hown hgr hbm)
    clear k
    rw [HSZ.out] at HO
    refine (refPut_len 40 40 _ (List.replicate 40 0) _ _ (r.kind) _ HO.out.row (List.length_replicate ..) (by omega) (by omega) (by omega) (by omega)).mono ?_
    rintro e wp ⟨rfl, hown, hb⟩
    replace HO : Hid (Own wp _ _ 40 (rec1 r)) := hown
    replace HC := hide (HC.out.below hb (Nat.le_refl _))
    have HS := hide HB.out.size
    replace HB := hide (over HB.out hb HB.out.size)
    clear hown hb
    have k6 := HC.out.c6
    have k7 := HC.out.c7
    rw [hhad] at k6
    rw [hhas] at k7
    go_wp2_with fail
    clear k6 k7
    rw [show (bits .or .u64 0 2 : Int) = markB r by unfold markB; rw [hhad, hhas]; rfl]
    refine (refPut_len 40 40 _ (rec1 r) _ _ (markB r) _ HO.out.row (length_rec1 r) (by omega) (by omega) (markB_bd r).1 (Int.le_trans (markB_bd r).2 (by omega))).mono ?_
    rintro e wp ⟨rfl, hown, hb⟩
    replace HO : Hid (Own wp _ _ 40 (rec2 r)) := hown
    replace HC := hide (HC.out.below hb (Nat.le_refl _))
    have HS := hide HB.out.size
    replace HB := hide (over HB.out hb HB.out.size)
    clear hown hb
    have k := HC.out.c1
    go_wp2_with fail
    clear k
    refine (refPut_len 40 40 _ (rec2 r) _ _ (r.txn) _ HO.out.row (length_rec2 r) (by omega) (by omega) (by omega) (by omega)).mono ?_
    rintro e wp ⟨rfl, hown, hb⟩
    replace HO : Hid (Own wp _ _ 40 (rec3 r)) := hown
    replace HC := hide (HC.out.below hb (Nat.le_refl _))
    have HS := hide HB.out.size
    replace HB := hide (over HB.out hb HB.out.size)
    clear hown hb
    have k := HC.out.c2
    go_wp2_with fail
    clear k
    refine (refPut_len 40 40 _ (rec3 r) _ _ (r.page) _ HO.out.row (length_rec3 r) (by omega) (by omega) (by omega) (by omega)).mono ?_
    rintro e wp ⟨rfl, hown, hb⟩
    replace HO : Hid (Own wp _ _ 40 (rec4 r)) := hown
    replace HC := hide (HC.out.below hb (Nat.le_refl _))
    have HS := hide HB.out.size
    replace HB := hide (over HB.out hb HB.out.size)
    clear hown hb
    have k := HC.out.c3
    go_wp2_with fail
    clear k
    refine (refPut_len 40 40 _ (rec4 r) _ _ (r.prev) _ HO.out.row (length_rec4 r) (by omega) (by omega) (by omega) (by omega)).mono ?_
    rintro e wp ⟨rfl, hown, hb⟩
    replace HO : Hid (Own wp _ _ 40 (rec5 r)) := hown
    replace HC := hide (HC.out.below hb (Nat.le_refl _))
    have HS := hide HB.out.size
    replace HB := hide (over HB.out hb HB.out.size)
    clear hown hb
    have k := HC.out.c4
    go_wp2_with fail
    clear k
    refine (refPut_len 40 40 _ (rec5 r) _ _ (r.next) _ HO.out.row (length_rec5 r) (by omega) (by omega) (by omega) (by omega)).mono ?_
    rintro e wp ⟨rfl, hown, hb⟩
    replace HO : Hid (Own wp _ _ 40 (rec6 r)) := hown
    replace HC := hide (HC.out.below hb (Nat.le_refl _))
    have HS := hide HB.out.size
    replace HB := hide (over HB.out hb HB.out.size)
    clear hown hb
    have k := HC.out.c5
    go_wp2_with fail
    clear k
    refine (refPut_len 40 40 _ (rec6 r) _ _ (r.key) _ HO.out.row (length_rec6 r) (by omega) (by omega) (by omega) (by omega)).mono ?_
    rintro e wp ⟨rfl, hown, hb⟩
    replace HO : Hid (Own wp _ _ 40 (rec7 r)) := hown
    replace HC := hide (HC.out.below hb (Nat.le_refl _))
    have HS := hide HB.out.size
    replace HB := hide (over HB.out hb HB.out.size)
    clear hown hb
    have k := HC.out.c8
    go_wp2_with fail
    rw [u64_wrap]
    clear k
    refine (refPut_len 40 40 _ (rec7 r) _ _ (u64 r.old) _ HO.out.row (length_rec7 r) (by omega) (by omega) (u64_bd _).1 (u64_bd _).2).mono ?_
    rintro e wp ⟨rfl, hown, hb⟩
    replace HO : Hid (Own wp _ _ 40 (rec8 r)) := hown
    replace HC := hide (HC.out.below hb (Nat.le_refl _))
    have HS := hide HB.out.size
    replace HB := hide (over HB.out hb HB.out.size)
    clear hown hb
    have k := HC.out.c9
    go_wp2_with fail
    rw [u64_wrap]
    clear k
    refine (refPut_len 40 40 _ (rec8 r) _ _ (u64 r.new) _ HO.out.row (length_rec8 r) (by omega) (by omega) (u64_bd _).1 (u64_bd _).2).mono ?_
    rintro e wp ⟨rfl, hown, hb⟩
    replace HO : Hid (Own wp _ _ 40 (recB r)) := hown
    replace HC := hide (HC.out.below hb (Nat.le_refl _))
    have HS := hide HB.out.size
    replace HB := hide (over HB.out hb HB.out.size)
    clear hown hb
    go_wp2_with fail
    go_ret
    exact ⟨_, rfl, HS.out, HO.out, HB.out⟩
  · rw [hhad, hhas] at HC HB
    go_enter Tryz.func122, Tryz.ntmps122
    go_wp2_with (at_make; refine wpList_make_full _ rfl (.const (.int .i64 40)) (.const (.int .i64 40)) 65 rfl (w.heap.size + 1) 5 i0 (.int .u8 0) 1 Tryz.underlying65 hi hz0 hz1 .i64 .i64 40 40 40 rfl rfl rfl rfl (by rw [hz2]; omega) (by unfold maxLen; omega) (by simp) ?_; intro wm hown hgr; have HO := hide (own_made hown (by omega)); have hbm := (Below.refl _ _).grown hgr (Nat.le_refl _) (by simp); replace HC := hide (HC.out.below hbm (Nat.le_refl _)); replace HB := hide (over HB.out hbm HB.out.size); have k := HC.out.c0; clear hown hgr hbm)
    clear k
    rw [HSZ.out] at HO
    refine (refPut_len 40 40 _ (List.replicate 40 0) _ _ (r.kind) _ HO.out.row (List.length_replicate ..) (by omega) (by omega) (by omega) (by omega)).mono ?_
    rintro e wp ⟨rfl, hown, hb⟩
    replace HO : Hid (Own wp _ _ 40 (rec1 r)) := hown
    replace HC := hide (HC.out.below hb (Nat.le_refl _))
    have HS := hide HB.out.size
    replace HB := hide (over HB.out hb HB.out.size)
    clear hown hb
    have k6 := HC.out.c6
    have k7 := HC.out.c7
    rw [hhad] at k6
    rw [hhas] at k7
    go_wp2_with fail
    clear k6 k7
    rw [show (bits .or .u64 0 1 : Int) = markB r by unfold markB; rw [hhad, hhas]; rfl]
    refine (refPut_len 40 40 _ (rec1 r) _ _ (markB r) _ HO.out.row (length_rec1 r) (by omega) (by omega) (markB_bd r).1 (Int.le_trans (markB_bd r).2 (by omega))).mono ?_
    rintro e wp ⟨rfl, hown, hb⟩
    replace HO : Hid (Own wp _ _ 40 (rec2 r)) := hown
    replace HC := hide (HC.out.below hb (Nat.le_refl _))
    have HS := hide HB.out.size
    replace HB := hide (over HB.out hb HB.out.size)
    clear hown hb
    have k := HC.out.c1
    go_wp2_with fail
    clear k
    refine (refPut_len 40 40 _ (rec2 r) _ _ (r.txn) _ HO.out.row (length_rec2 r) (by omega) (by omega) (by omega) (by omega)).mono ?_
    rintro e wp ⟨rfl, hown, hb⟩
    replace HO : Hid (Own wp _ _ 40 (rec3 r)) := hown
    replace HC := hide (HC.out.below hb (Nat.le_refl _))
    have HS := hide HB.out.size
    replace HB := hide (over HB.out hb HB.out.size)
    clear hown hb
    have k := HC.out.c2
    go_wp2_with fail
    clear k
    refine (refPut_len 40 40 _ (rec3 r) _ _ (r.page) _ HO.out.row (length_rec3 r) (by omega) (by omega) (by omega) (by omega)).mono ?_
    rintro e wp ⟨rfl, hown, hb⟩
    replace HO : Hid (Own wp _ _ 40 (rec4 r)) := hown
    replace HC := hide (HC.out.below hb (Nat.le_refl _))
    have HS := hide HB.out.size
    replace HB := hide (over HB.out hb HB.out.size)
    clear hown hb
    have k := HC.out.c3
    go_wp2_with fail
    clear k
    refine (refPut_len 40 40 _ (rec4 r) _ _ (r.prev) _ HO.out.row (length_rec4 r) (by omega) (by omega) (by omega) (by omega)).mono ?_
    rintro e wp ⟨rfl, hown, hb⟩
    replace HO : Hid (Own wp _ _ 40 (rec5 r)) := hown
    replace HC := hide (HC.out.below hb (Nat.le_refl _))
    have HS := hide HB.out.size
    replace HB := hide (over HB.out hb HB.out.size)
    clear hown hb
    have k := HC.out.c4
    go_wp2_with fail
    clear k
    refine (refPut_len 40 40 _ (rec5 r) _ _ (r.next) _ HO.out.row (length_rec5 r) (by omega) (by omega) (by omega) (by omega)).mono ?_
    rintro e wp ⟨rfl, hown, hb⟩
    replace HO : Hid (Own wp _ _ 40 (rec6 r)) := hown
    replace HC := hide (HC.out.below hb (Nat.le_refl _))
    have HS := hide HB.out.size
    replace HB := hide (over HB.out hb HB.out.size)
    clear hown hb
    have k := HC.out.c5
    go_wp2_with fail
    clear k
    refine (refPut_len 40 40 _ (rec6 r) _ _ (r.key) _ HO.out.row (length_rec6 r) (by omega) (by omega) (by omega) (by omega)).mono ?_
    rintro e wp ⟨rfl, hown, hb⟩
    replace HO : Hid (Own wp _ _ 40 (rec7 r)) := hown
    replace HC := hide (HC.out.below hb (Nat.le_refl _))
    have HS := hide HB.out.size
    replace HB := hide (over HB.out hb HB.out.size)
    clear hown hb
    have k := HC.out.c8
    go_wp2_with fail
    rw [u64_wrap]
    clear k
    refine (refPut_len 40 40 _ (rec7 r) _ _ (u64 r.old) _ HO.out.row (length_rec7 r) (by omega) (by omega) (u64_bd _).1 (u64_bd _).2).mono ?_
    rintro e wp ⟨rfl, hown, hb⟩
    replace HO : Hid (Own wp _ _ 40 (rec8 r)) := hown
    replace HC := hide (HC.out.below hb (Nat.le_refl _))
    have HS := hide HB.out.size
    replace HB := hide (over HB.out hb HB.out.size)
    clear hown hb
    have k := HC.out.c9
    go_wp2_with fail
    rw [u64_wrap]
    clear k
    refine (refPut_len 40 40 _ (rec8 r) _ _ (u64 r.new) _ HO.out.row (length_rec8 r) (by omega) (by omega) (u64_bd _).1 (u64_bd _).2).mono ?_
    rintro e wp ⟨rfl, hown, hb⟩
    replace HO : Hid (Own wp _ _ 40 (recB r)) := hown
    replace HC := hide (HC.out.below hb (Nat.le_refl _))
    have HS := hide HB.out.size
    replace HB := hide (over HB.out hb HB.out.size)
    clear hown hb
    go_wp2_with fail
    go_ret
    exact ⟨_, rfl, HS.out, HO.out, HB.out⟩
  · rw [hhad, hhas] at HC HB
    go_enter Tryz.func122, Tryz.ntmps122
    go_wp2_with (at_make; refine wpList_make_full _ rfl (.const (.int .i64 40)) (.const (.int .i64 40)) 65 rfl (w.heap.size + 1) 5 i0 (.int .u8 0) 1 Tryz.underlying65 hi hz0 hz1 .i64 .i64 40 40 40 rfl rfl rfl rfl (by rw [hz2]; omega) (by unfold maxLen; omega) (by simp) ?_; intro wm hown hgr; have HO := hide (own_made hown (by omega)); have hbm := (Below.refl _ _).grown hgr (Nat.le_refl _) (by simp); replace HC := hide (HC.out.below hbm (Nat.le_refl _)); replace HB := hide (over HB.out hbm HB.out.size); have k := HC.out.c0; clear hown hgr hbm)
    clear k
    rw [HSZ.out] at HO
    refine (refPut_len 40 40 _ (List.replicate 40 0) _ _ (r.kind) _ HO.out.row (List.length_replicate ..) (by omega) (by omega) (by omega) (by omega)).mono ?_
    rintro e wp ⟨rfl, hown, hb⟩
    replace HO : Hid (Own wp _ _ 40 (rec1 r)) := hown
    replace HC := hide (HC.out.below hb (Nat.le_refl _))
    have HS := hide HB.out.size
    replace HB := hide (over HB.out hb HB.out.size)
    clear hown hb
    have k6 := HC.out.c6
    have k7 := HC.out.c7
    rw [hhad] at k6
    rw [hhas] at k7
    go_wp2_with fail
    clear k6 k7
    rw [show (bits .or .u64 (bits .or .u64 0 1) 2 : Int) = markB r by unfold markB; rw [hhad, hhas]; rfl]
    refine (refPut_len 40 40 _ (rec1 r) _ _ (markB r) _ HO.out.row (length_rec1 r) (by omega) (by omega) (markB_bd r).1 (Int.le_trans (markB_bd r).2 (by omega))).mono ?_
    rintro e wp ⟨rfl, hown, hb⟩
    replace HO : Hid (Own wp _ _ 40 (rec2 r)) := hown
    replace HC := hide (HC.out.below hb (Nat.le_refl _))
    have HS := hide HB.out.size
    replace HB := hide (over HB.out hb HB.out.size)
    clear hown hb
    have k := HC.out.c1
    go_wp2_with fail
    clear k
    refine (refPut_len 40 40 _ (rec2 r) _ _ (r.txn) _ HO.out.row (length_rec2 r) (by omega) (by omega) (by omega) (by omega)).mono ?_
    rintro e wp ⟨rfl, hown, hb⟩
    replace HO : Hid (Own wp _ _ 40 (rec3 r)) := hown
    replace HC := hide (HC.out.below hb (Nat.le_refl _))
    have HS := hide HB.out.size
    replace HB := hide (over HB.out hb HB.out.size)
    clear hown hb
    have k := HC.out.c2
    go_wp2_with fail
    clear k
    refine (refPut_len 40 40 _ (rec3 r) _ _ (r.page) _ HO.out.row (length_rec3 r) (by omega) (by omega) (by omega) (by omega)).mono ?_
    rintro e wp ⟨rfl, hown, hb⟩
    replace HO : Hid (Own wp _ _ 40 (rec4 r)) := hown
    replace HC := hide (HC.out.below hb (Nat.le_refl _))
    have HS := hide HB.out.size
    replace HB := hide (over HB.out hb HB.out.size)
    clear hown hb
    have k := HC.out.c3
    go_wp2_with fail
    clear k
    refine (refPut_len 40 40 _ (rec4 r) _ _ (r.prev) _ HO.out.row (length_rec4 r) (by omega) (by omega) (by omega) (by omega)).mono ?_
    rintro e wp ⟨rfl, hown, hb⟩
    replace HO : Hid (Own wp _ _ 40 (rec5 r)) := hown
    replace HC := hide (HC.out.below hb (Nat.le_refl _))
    have HS := hide HB.out.size
    replace HB := hide (over HB.out hb HB.out.size)
    clear hown hb
    have k := HC.out.c4
    go_wp2_with fail
    clear k
    refine (refPut_len 40 40 _ (rec5 r) _ _ (r.next) _ HO.out.row (length_rec5 r) (by omega) (by omega) (by omega) (by omega)).mono ?_
    rintro e wp ⟨rfl, hown, hb⟩
    replace HO : Hid (Own wp _ _ 40 (rec6 r)) := hown
    replace HC := hide (HC.out.below hb (Nat.le_refl _))
    have HS := hide HB.out.size
    replace HB := hide (over HB.out hb HB.out.size)
    clear hown hb
    have k := HC.out.c5
    go_wp2_with fail
    clear k
    refine (refPut_len 40 40 _ (rec6 r) _ _ (r.key) _ HO.out.row (length_rec6 r) (by omega) (by omega) (by omega) (by omega)).mono ?_
    rintro e wp ⟨rfl, hown, hb⟩
    replace HO : Hid (Own wp _ _ 40 (rec7 r)) := hown
    replace HC := hide (HC.out.below hb (Nat.le_refl _))
    have HS := hide HB.out.size
    replace HB := hide (over HB.out hb HB.out.size)
    clear hown hb
    have k := HC.out.c8
    go_wp2_with fail
    rw [u64_wrap]
    clear k
    refine (refPut_len 40 40 _ (rec7 r) _ _ (u64 r.old) _ HO.out.row (length_rec7 r) (by omega) (by omega) (u64_bd _).1 (u64_bd _).2).mono ?_
    rintro e wp ⟨rfl, hown, hb⟩
    replace HO : Hid (Own wp _ _ 40 (rec8 r)) := hown
    replace HC := hide (HC.out.below hb (Nat.le_refl _))
    have HS := hide HB.out.size
    replace HB := hide (over HB.out hb HB.out.size)
    clear hown hb
    have k := HC.out.c9
    go_wp2_with fail
    rw [u64_wrap]
    clear k
    refine (refPut_len 40 40 _ (rec8 r) _ _ (u64 r.new) _ HO.out.row (length_rec8 r) (by omega) (by omega) (u64_bd _).1 (u64_bd _).2).mono ?_
    rintro e wp ⟨rfl, hown, hb⟩
    replace HO : Hid (Own wp _ _ 40 (recB r)) := hown
    replace HC := hide (HC.out.below hb (Nat.le_refl _))
    have HS := hide HB.out.size
    replace HB := hide (over HB.out hb HB.out.size)
    clear hown hb
    go_wp2_with fail
    go_ret
    exact ⟨_, rfl, HS.out, HO.out, HB.out⟩
end Go.Proofs.YtjacenhblclkaaaGreatDoor
