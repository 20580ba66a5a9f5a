/- Lemmas and contracts that the law stands on, joined: PageFirst. -/
import Derived.Test.YtdijgpkcolpfoaaDoorJoin17
import Derived.Test.YtdijgpkcolpfoaaDoorJoin20
import Derived.Deep.Cut
/- The chapter's examples on pages, as the statements ask them first: they hold, and nothing that was there is written. -/
namespace Go.Proofs.YtdijgpkcolpfoaaDoor
open Go.RowKit
set_option linter.unusedVariables false

set_option maxRecDepth 100000 in
set_option maxHeartbeats 1000000 in
theorem index_none (fv : Value) (w : World) : Calls Tryd.prog 53 #[.slice none 0 0, fv] w fun e w' => e = .returned (.int .i64 (-1)) ∧ w' = w := by
  go_enter Tryd.func53, Tryd.ntmps53
  go_wp2_with fail
  go_loopw [8] (fun i wr => i = .int .i64 0 ∧ wr = w) (fun _ _ => 0)
  case atStart => exact ⟨rfl, rfl⟩
  case round =>
    obtain ⟨rfl, rfl⟩ := hrel
    go_wp2_with fail
    go_ret
    exact ⟨rfl, rfl⟩
set_option maxRecDepth 100000 in
set_option maxHeartbeats 1000000 in
theorem find_none (lsn key : Int) (w : World) : Calls Tryd.prog 38 #[.agg #[.int .i64 lsn, .slice none 0 0], .int .i64 key] w fun e w' => e = .returned (.int .i64 (-1)) ∧ Below w.heap.size w w' := by
  go_enter Tryd.func38, Tryd.ntmps38
  go_wp2_with fail
  refine (index_none _ _).mono ?_
  rintro e w1 ⟨rfl, rfl⟩
  go_wp2_with fail
  go_ret
  exact ⟨rfl, ((Below.refl _ _).alloc (Nat.le_refl _) _).alloc (by simp) _⟩
set_option maxRecDepth 100000 in
set_option maxHeartbeats 1000000 in
theorem place_none (lsn key : Int) (w : World) : Calls Tryd.prog 41 #[.agg #[.int .i64 lsn, .slice none 0 0], .int .i64 key] w fun e w' => e = .returned (.int .i64 0) ∧ Below w.heap.size w w' := by
  go_enter Tryd.func41, Tryd.ntmps41
  go_wp2_with fail
  refine (index_none _ _).mono ?_
  rintro e w1 ⟨rfl, rfl⟩
  go_wp2_with fail
  go_ret
  exact ⟨rfl, ((Below.refl _ _).alloc (Nat.le_refl _) _).alloc (by simp) _⟩
set_option maxRecDepth 100000 in
set_option maxHeartbeats 1000000 in
theorem clone_none (w : World) : Calls Tryd.prog 39 #[.slice none 0 0] w fun e w' => e = .returned (.slice none 0 0) ∧ w' = w := by
  have hq := fun x => Lib.run_eql_slice_nil (P := Tryd.prog) x 22 65 none 0 0 0 0 Tryd.underlying22
  go_enter Tryd.func39, Tryd.ntmps39
  go_wp2_with fail
  go_ret
  exact ⟨rfl, rfl⟩
set_option maxRecDepth 100000 in
set_option maxHeartbeats 1000000 in
theorem insert_none (e : Int × Int) (w : World) : Calls Tryd.prog 40 #[.slice none 0 0, .int .i64 0, .slice (some ⟨w.heap.size, 0, none⟩) 1 1] (w.alloc (entBlock e)) fun r w' => ∃ ao c, r = .returned (.slice ao 1 c) ∧ OwnE w' w.heap.size ao c [e] ∧ Below w.heap.size w w' := by
  obtain ⟨ao', c', w1, hr, ho, hg, hb⟩ := run_appendE (yc := 1) (ownE_nil (w.alloc (entBlock e)) w.heap.size) (show ([] : List (Int × Int)).length = 0 from rfl) (show [e].length = 1 from rfl) (by omega) (below_box w (entBlock e)).size (ent_new w e) 22
  have HRUN := hide hr
  have HO := hide ho
  have HB := hide ((below_box w (entBlock e)).trans hb)
  clear hr ho hg hb
  go_enter Tryd.func40, Tryd.ntmps40
  go_wp2_with (at_builtin; refine wpList_append_runE (by rfl) (.tmp 23) (.tmp 24) 22 (by rfl) _ _ (by rfl) (by rfl) HRUN.out ?_)
  go_ret
  exact ⟨ao', c', rfl, HO.out, HB.out⟩
set_option maxRecDepth 100000 in
set_option maxHeartbeats 2000000 in
theorem put_none (lsn key v : Int) (w : World) : Calls Tryd.prog 21 #[.agg #[.int .i64 lsn, .slice none 0 0], .int .i64 key, .int .i64 v] w fun r w' => ∃ ao c, r = .returned (.tuple #[.agg #[.int .i64 lsn, .slice ao 1 c], .bool true]) ∧ Below w.heap.size w w' := by
  have hb1 := below_box w (pageBlock lsn none 0 0)
  have hb2 := below_box (w.alloc (pageBlock lsn none 0 0)) (pageBlock 0 none 0 0)
  have HB := hide (over hb1 hb2 hb1.size)
  have hc := page_cells w lsn none 0 0
  have hlt : w.heap.size < (w.alloc (pageBlock lsn none 0 0)).heap.size := by simp
  have HC : Hid (((w.alloc (pageBlock lsn none 0 0)).alloc (pageBlock 0 none 0 0)).cell? ⟨w.heap.size, 0, none⟩ = some (.int .i64 lsn) ∧ ((w.alloc (pageBlock lsn none 0 0)).alloc (pageBlock 0 none 0 0)).cell? ⟨w.heap.size, 1, none⟩ = some (.slice none 0 0)) := ⟨(hb2.cell (p := ⟨w.heap.size, 0, none⟩) hlt).trans hc.1, (hb2.cell (p := ⟨w.heap.size, 1, none⟩) hlt).trans hc.2⟩
  have hsz : (w.alloc (pageBlock lsn none 0 0)).heap.size = w.heap.size + 1 := by simp
  have HZ : Hid (((w.alloc (pageBlock lsn none 0 0)).alloc (pageBlock 0 none 0 0)).heap[w.heap.size + 1]? = some (.cells #[.int .i64 0, .slice none 0 0] 24 (0, 0))) := by show _ = _; rw [← hsz]; exact heap_alloc_new _ _
  unfold pageBlock at HB HC HZ
  obtain ⟨X, hX⟩ : ∃ X, X = (w.alloc (.cells #[.int .i64 lsn, .slice none 0 0] 24)).alloc (.cells #[.int .i64 0, .slice none 0 0] 24) := ⟨_, rfl⟩
  rw [← hX] at HB HC HZ
  have HX := hide hX
  obtain ⟨B3, hB3⟩ : ∃ B3, B3 = w.heap.size := ⟨_, rfl⟩
  have HB3 := hide hB3
  rw [← hB3] at HC HZ
  obtain ⟨B6, hB6⟩ : ∃ B6, B6 = B3 + 1 := ⟨_, rfl⟩
  have HB6 := hide hB6
  rw [← hB6] at HZ
  have HLO : Hid (w.heap.size ≤ B6) := by show w.heap.size ≤ B6; omega
  clear hb1 hb2 hc hlt hsz hX hB3 hB6
  go_enter Tryd.func21, Tryd.ntmps21
  go_upto_region 1 with fail
  rw [← HX.out, ← HB3.out, ← HB6.out]
  clear HX HB3 HB6
  obtain ⟨k0, k1⟩ := HC.out
  go_wp2_with fail
  refine (clone_none _).mono ?_
  rintro e x1 ⟨rfl, rfl⟩
  go_wp2_with fail
  refine (find_none lsn key _).mono ?_
  rintro e x2 ⟨rfl, hb⟩
  replace HB := hide (over HB.out hb HB.out.size)
  replace HZ := hide ((hb.block B6 (lt_of_block HZ.out)).trans HZ.out)
  have k0' := (hb.cell (World.block_lt_of_cell? _ _ k0)).trans k0
  have k1' := (hb.cell (World.block_lt_of_cell? _ _ k1)).trans k1
  clear hb k0 k1 HC
  go_wp2_with fail
  refine (place_none lsn key _).mono ?_
  rintro e x3 ⟨rfl, hb⟩
  replace HB := hide (over HB.out hb HB.out.size)
  replace HZ := hide ((hb.block B6 (lt_of_block HZ.out)).trans HZ.out)
  have k0 := (hb.cell (World.block_lt_of_cell? _ _ k0')).trans k0'
  have HK := hide k0
  clear hb k0' k1'
  go_wp2_with (first | (refine buildE (key, v) rfl ?_))
  refine (insert_none (key, v) x3).mono ?_
  rintro e x4 ⟨ao, c, rfl, hown, hb⟩
  replace HB := hide (over HB.out hb HB.out.size)
  replace HZ := hide ((hb.block B6 (lt_of_block HZ.out)).trans HZ.out)
  have k0' := (hb.cell (World.block_lt_of_cell? _ _ HK.out)).trans HK.out
  have z0 := (cell_row HZ.out 0).trans (show _ = some (Value.int .i64 0) from rfl)
  have z1 := (cell_row HZ.out 1).trans (show _ = some (Value.slice none 0 0) from rfl)
  have g0 : x4.frozen? ⟨B6, 0, none⟩ = false := by simp [World.frozen?, HZ.out]
  have g1 : x4.frozen? ⟨B6, 1, none⟩ = false := by simp [World.frozen?, HZ.out]
  clear hb hown k0 HK
  go_wp2_with fail
  exact bodyPost_ret (v := .tuple #[.agg #[.int .i64 lsn, .slice ao 1 c], .bool true]) (by simp [results, Tryd.results21, go_sem, z0, z1]) rfl ⟨ao, c, rfl, (HB.out.setCell (p := ⟨B6, 0, none⟩) HLO.out _).setCell (p := ⟨B6, 1, none⟩) HLO.out _⟩
theorem zero_page : isPage page0 = true ∧ lsnOf page0 = 0 ∧ keysOf page0 = 0 := by decide +kernel
theorem fill_zero : fillOf 0 = page0 := rfl
set_option maxRecDepth 100000 in
set_option maxHeartbeats 2000000 in
theorem pfirst_any (w : World) {x : Addr} (hE : w.cell? ⟨0, 0, none⟩ = some (errV x)) : Calls Tryd.prog 5 #[] w fun e w' => e = .returned (.bool true) ∧ Below w.heap.size w w' := by
  have HB0 := hide (below_box w zeroBlock)
  have HR := hide (own_zeroBlock w).row
  have HE := hide ((HB0.out.cell (World.block_lt_of_cell? w _ hE)).trans hE)
  have hmk := make_sector
  clear hE
  go_enter Tryd.func5, Tryd.ntmps5
  go_wp2_with fail
  refine (pread_ok _ 256 page0 _ HR.out HE.out length_page0 zero_page.1).mono ?_
  rintro e w1 ⟨ao, c, rfl, hown, hb⟩
  rw [zero_page.2.1, zero_page.2.2]
  have hbx := below_box w1 (pageBlock 0 ao 0 c)
  have HC := hide (page_cells w1 0 ao 0 c)
  have HB1 := hide (over (over HB0.out hb HB0.out.size) hbx (over HB0.out hb HB0.out.size).size)
  unfold pageBlock at HC HB1
  clear hown hb hbx hmk HB0 HR HE
  unfold pageV
  go_upto_region 2 with fail
  obtain ⟨Y, hY⟩ : ∃ Y, Y = w1.alloc (.cells #[.int .i64 0, .slice ao 0 c] 24) := ⟨_, rfl⟩
  rw [← hY] at HC HB1 ⊢
  obtain ⟨V, hV⟩ : ∃ V, V = w1.heap.size := ⟨_, rfl⟩
  rw [← hV] at HC ⊢
  clear hY hV
  go_wp2_with fail
  refine (put_none 0 5 7 _).mono ?_
  rintro e w2 ⟨ao2, c2, rfl, hb⟩
  have hbx := below_box w2 (pageBlock 0 ao2 1 c2)
  have hb2 := over hb hbx hb.size
  have k0 := (hb2.cell (World.block_lt_of_cell? _ _ HC.out.1)).trans HC.out.1
  have k1 := (hb2.cell (World.block_lt_of_cell? _ _ HC.out.2)).trans HC.out.2
  have hc := page_cells w2 0 ao2 1 c2
  have HB2 := hide (over HB1.out hb2 HB1.out.size)
  unfold pageBlock at k0 k1 hc HB2
  clear hb hbx hb2 HC HB1
  go_upto_region 3 with fail
  obtain ⟨Z, hZ⟩ : ∃ Z, Z = w2.alloc (.cells #[.int .i64 0, .slice ao2 1 c2] 24) := ⟨_, rfl⟩
  rw [← hZ] at k0 k1 hc HB2 ⊢
  obtain ⟨U, hU⟩ : ∃ U, U = w2.heap.size := ⟨_, rfl⟩
  rw [← hU] at hc ⊢
  clear hZ hU
  obtain ⟨q0, q1⟩ := hc
  go_wp2_with fail
  go_ret
  exact ⟨rfl, HB2.out⟩
end Go.Proofs.YtdijgpkcolpfoaaDoor
