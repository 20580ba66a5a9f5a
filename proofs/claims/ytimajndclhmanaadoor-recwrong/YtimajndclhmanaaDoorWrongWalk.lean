
/- What the statement RecWrong asks comes out true, at all numbers; nothing that was there is written. -/
import Derived.Test.YtimajndclhmanaaDoorWrongMath
import Derived.Test.YtimajndclhmanaaDoorSee
import Derived.Test.YtimajndclhmanaaDoorLay
import Derived.Test.YtimajndclhmanaaDoorFrame
import Derived.Deep.Cut
namespace Go.Proofs.YtimajndclhmanaaDoor.recWrong
open Go.RowKit
set_option linter.unusedVariables false

set_option maxRecDepth 100000 in
set_option maxHeartbeats 4000000 in
theorem walk (a0 a1 : Int) (w : World) (w0 : (Lit.int .i64 a0).wf = true) (w1 : (Lit.int .i64 a1).wf = true) {a : Nat → Addr} (he : ErrsOf w all18 a) :
    Calls Tryd.prog 5 #[.int .i64 a0, .int .i64 a1] w fun e w' => e = .returned (.bool true) ∧ Below w.heap.size w w' := by
  have HE := hide he
  have HW := hide he
  clear he w0 w1
  go_enter Tryd.func5, Tryd.ntmps5
  go_wp2_with fail
  refine (rfirst_any _ _ (HE.out.var 1 (mem18 (by omega)) rfl)).mono ?_
  rintro e w1 ⟨rfl, hb⟩
  replace HE := hide (HE.out.step hb)
  have HB := hide hb
  clear hb
  go_wp2_with fail
  refine (number_any _ _ _ (by omega) (by omega)).mono ?_
  rintro e x2 ⟨rfl, rfl⟩
  have hn := numberB_bd a1 100 (by omega)
  obtain ⟨n, hn'⟩ : ∃ n, n = numberB a1 100 := ⟨_, rfl⟩
  rw [← hn'] at hn ⊢
  clear hn'
  obtain ⟨hn0, hn1⟩ := hn
  go_upto_region 7 with fail
  have HS := hide ((cells10_new w1 setR).below (below_box (w1.alloc (recCells setR)) (recCells clrR)) (Nat.le_refl _))
  have HC := hide (cells10_new (w1.alloc (recCells setR)) clrR)
  rw [show (w1.alloc (recCells setR)).heap.size = w1.heap.size + 1 by simp] at HC
  replace HB := hide (over HB.out (((Below.refl w1.heap.size w1).alloc (Nat.le_refl _) (recCells setR)).alloc (by simp) (recCells clrR)) HB.out.size)
  obtain ⟨X, hX⟩ : ∃ X, X = ((w1.alloc (.cells #[.int .i64 2, .int .i64 1, .int .i64 1, .int .i64 5, .int .i64 0, .int .i64 7, .bool false, .bool true, .int .i64 0, .int .i64 9] 23)).alloc (.cells #[.int .i64 3, .int .i64 1, .int .i64 1, .int .i64 5, .int .i64 3, .int .i64 7, .bool true, .bool false, .int .i64 4, .int .i64 0] 23)) := ⟨_, rfl⟩
  have hX2 : X = (w1.alloc (recCells setR)).alloc (recCells clrR) := hX
  have hXs : X.heap.size = w1.heap.size + 2 := by rw [hX2]; simp
  rw [← hX2] at HS HC HB
  rw [← hX]
  clear hX hX2
  obtain ⟨k0, k1, k2, k3, k4, k5, k6, k7, k8, k9, kl⟩ := HS.out
  obtain ⟨m0, m1, m2, m3, m4, m5, m6, m7, m8, m9, ml⟩ := HC.out
  go_upto_region 8 with (refine build20 (w1.heap.size + 2) hXs rfl ?_)
  clear k0 k1 k2 k3 k4 k5 k6 k7 k8 k9 kl m0 m1 m2 m3 m4 m5 m6 m7 m8 m9 ml
  have hL : (X.alloc (.cells (cellsOfRs firstL).toArray 23)).heap[X.heap.size]? = some (.cells (cellsOfRs firstL).toArray 23 (0, 0)) := heap_alloc_new _ _
  have hbG := below_box X (.cells (cellsOfRs firstL).toArray 23)
  replace HS := hide (HS.out.below hbG (Nat.le_refl _))
  replace HC := hide (HC.out.below hbG (Nat.le_refl _))
  have HSG := hide (Nat.le_trans HB.out.size (Nat.le_refl X.heap.size))
  replace HB := hide (over HB.out hbG HB.out.size)
  clear hbG
  obtain ⟨G, hG⟩ : ∃ G, G = X.alloc (.cells (cellsOfRs firstL).toArray 23) := ⟨_, rfl⟩
  rw [← hG] at hL HS HC HB ⊢
  clear hG
  rw [hXs] at hL HSG
  obtain ⟨g, hg⟩ : ∃ g, g = w1.heap.size + 2 := ⟨_, rfl⟩
  have hg1 : w1.heap.size < g := by omega
  have hg2 : w1.heap.size + 1 < g := by omega
  rw [← hg] at hL HSG ⊢
  have HLT := hide hg1
  have HLT2 := hide hg2
  clear hg hXs hg1 hg2
  obtain ⟨z1, f1, z12, f12, z23, f23, z34, f34, z45, f45, z58, f58, z67, f67, z76, f76, z88, f88, z99, f99⟩ := ten_cells hL
  have HL := hide hL
  clear hL
  go_upto_region 18 with fail
  clear z1 f1 z12 f12 z23 f23 z34 f34 z45 f45 z58 f58 z67 f67 z76 f76 z88 f88 z99 f99
  have hT : turned G g n = ((((((((((G.setCell ⟨g, 1, none⟩ (.int .i64 0)).setCell ⟨g, 12, none⟩ (.int .i64 33)).setCell ⟨g, 23, none⟩ (.int .i64 (1073741825 + n))).setCell ⟨g, 34, none⟩ (.int .i64 1)).setCell ⟨g, 45, none⟩ (.int .i64 1048576)).setCell ⟨g, 58, none⟩ (.int .i64 3)).setCell ⟨g, 67, none⟩ (.bool false)).setCell ⟨g, 76, none⟩ (.bool false)).setCell ⟨g, 88, none⟩ (.int .i64 0)).setCell ⟨g, 99, none⟩ (.int .i64 4)) := rfl
  rw [← hT]
  clear hT
  replace HS := hide (turned_other n HS.out HLT.out)
  replace HC := hide (turned_other n HC.out HLT2.out)
  replace HB := hide (turned_below n HB.out HSG.out)
  have hTL := turned_lies n HL.out
  obtain ⟨T, hT⟩ : ∃ T, T = turned G g n := ⟨_, rfl⟩
  rw [← hT] at HS HC HB hTL ⊢
  clear hT HL
  have hk := numberB_bd a0 20 (by omega)
  obtain ⟨k, hk'⟩ : ∃ k : Nat, numberB a0 20 = k := ⟨(numberB a0 20).toNat, by omega⟩
  have hk20 : k < 20 := by omega
  have hki : (k : Int) < 20 := by omega
  obtain ⟨rk, hrk⟩ := badL_get n k hk20
  have HR := hide (cells_from hTL hrk)
  have HBad := hide (bad_all n hn0 rk (List.mem_of_getElem? hrk))
  have HK := hide hk'
  clear hk hk' hTL hrk hk20
  go_wp2_with fail
  refine (number_any _ _ _ (by omega) (by omega)).mono ?_
  rintro e y1 ⟨rfl, rfl⟩
  rw [HK.out]
  obtain ⟨c0, c1, c2, c3, c4, c5, c6, c7, c8, c9, cl⟩ := HR.out
  go_wp2_with fail
  clear c0 c1 c2 c3 c4 c5 c6 c7 c8 c9 cl
  refine (recBytes_bad rk _ _ ((HW.out.step HB.out).var 1 (mem18 (by omega)) rfl) HBad.out).mono ?_
  rintro e y2 ⟨rfl, hb⟩
  replace HS := hide (HS.out.below hb (Nat.le_refl _))
  replace HC := hide (HC.out.below hb (Nat.le_refl _))
  replace HR := hide (HR.out.below hb (Nat.le_refl _))
  replace HB := hide (over HB.out hb HB.out.size)
  clear hb
  obtain ⟨k0, k1, k2, k3, k4, k5, k6, k7, k8, k9, kl⟩ := HS.out
  go_wp2_with fail
  clear k0 k1 k2 k3 k4 k5 k6 k7 k8 k9 kl
  refine (check_any setR _ _ ((HW.out.step HB.out).var 1 (mem18 (by omega)) rfl)).mono ?_
  rintro e y3 ⟨rfl, hb⟩
  rw [checkV_good set_good]
  replace HC := hide (HC.out.below hb (Nat.le_refl _))
  replace HR := hide (HR.out.below hb (Nat.le_refl _))
  replace HB := hide (over HB.out hb HB.out.size)
  clear hb
  obtain ⟨m0, m1, m2, m3, m4, m5, m6, m7, m8, m9, ml⟩ := HC.out
  go_wp2_with fail
  clear m0 m1 m2 m3 m4 m5 m6 m7 m8 m9 ml
  refine (check_any clrR _ _ ((HW.out.step HB.out).var 1 (mem18 (by omega)) rfl)).mono ?_
  rintro e y4 ⟨rfl, hb⟩
  rw [checkV_good clr_good]
  replace HR := hide (HR.out.below hb (Nat.le_refl _))
  replace HB := hide (over HB.out hb HB.out.size)
  clear hb
  go_wp2_with fail
  refine (is_err _ a 1 (by omega) _ (by omega) (HW.out.step HB.out)).mono ?_
  rintro e y5 ⟨rfl, hb⟩
  replace HR := hide (HR.out.below hb (Nat.le_refl _))
  replace HB := hide (over HB.out hb HB.out.size)
  clear hb
  obtain ⟨c0, c1, c2, c3, c4, c5, c6, c7, c8, c9, cl⟩ := HR.out
  go_wp2_with fail
  clear c0 c1 c2 c3 c4 c5 c6 c7 c8 c9 cl
  refine (check_any rk _ _ ((HW.out.step HB.out).var 1 (mem18 (by omega)) rfl)).mono ?_
  rintro e y6 ⟨rfl, hb⟩
  rw [checkV_bad HBad.out]
  replace HB := hide (over HB.out hb HB.out.size)
  clear hb
  go_wp2_with fail
  refine (is_err _ a 1 (by omega) _ (by omega) (HW.out.step HB.out)).mono ?_
  rintro e y7 ⟨rfl, hb⟩
  replace HB := hide (over HB.out hb HB.out.size)
  clear hb
  go_wp2_with fail
  go_ret
  exact ⟨rfl, HB.out⟩
end Go.Proofs.YtimajndclhmanaaDoor.recWrong
