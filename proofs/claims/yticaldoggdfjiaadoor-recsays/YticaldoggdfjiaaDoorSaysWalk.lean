
/- What the statement RecSays asks comes out true, at all arguments; nothing that was there is written. -/
import Derived.Test.YticaldoggdfjiaaDoorRecReadRef
import Derived.Test.YticaldoggdfjiaaDoorMakeSeq
import Derived.Test.YticaldoggdfjiaaDoorRecSame2
import Derived.Test.YticaldoggdfjiaaDoorSaysMem
import Derived.Test.YticaldoggdfjiaaDoorSee
import Derived.Test.YticaldoggdfjiaaDoorLay
import Derived.Test.YticaldoggdfjiaaDoorBlockTools
import Derived.Deep.Cut
namespace Go.Proofs.YticaldoggdfjiaaDoor.recSays
open Go.RowKit
set_option linter.unusedVariables false

theorem cells3 {w : World} {x y z : Value} {k : Nat} (hk : k < 3) : (w.alloc (.cells #[x, y, z] 24)).cell? ⟨w.heap.size, k, none⟩ = some ([x, y, z].getD k undef) := by
  rw [cell_row (heap_alloc_new w (.cells #[x, y, z] 24))]
  rcases (show k = 0 ∨ k = 1 ∨ k = 2 by omega) with rfl | rfl | rfl <;> rfl
/-- One of three lists of bytes: where it lies, its bytes. -/
def Three (W : World) (G : Nat) : Prop := ∀ k, k < 3 → ∃ ao n c, ∃ xs : List Int, W.cell? ⟨G, k, none⟩ = some (.slice ao n c) ∧ Row W ao xs ∧ xs.length = n ∧ n ≤ 60
theorem three_of {w : World} {ao : Option Addr} {n c : Nat} {xs : List Int} {g g' : Nat} {ys zs : List Int} (h1 : Row w ao xs) (hn : xs.length = n) (hn60 : n ≤ 60) (h2 : Row w (some ⟨g, 0, none⟩) ys) (h2l : ys.length = 40) (h3 : Row w (some ⟨g', 0, none⟩) zs) (h3l : zs.length = 40) :
    Three (w.alloc (.cells #[.slice ao n c, .slice (some ⟨g, 0, none⟩) 40 40, .slice (some ⟨g', 0, none⟩) 40 40] 24)) w.heap.size := by
  intro k hk
  have hb := below_box w (.cells #[.slice ao n c, .slice (some ⟨g, 0, none⟩) 40 40, .slice (some ⟨g', 0, none⟩) 40 40] 24)
  have hc := cells3 (w := w) (x := .slice ao n c) (y := .slice (some ⟨g, 0, none⟩) 40 40) (z := .slice (some ⟨g', 0, none⟩) 40 40) hk
  rcases (show k = 0 ∨ k = 1 ∨ k = 2 by omega) with rfl | rfl | rfl
  · exact ⟨ao, n, c, xs, hc, h1.below hb (Nat.le_refl _), hn, hn60⟩
  · exact ⟨_, 40, 40, ys, hc, h2.below hb (Nat.le_refl _), h2l, by omega⟩
  · exact ⟨_, 40, 40, zs, hc, h3.below hb (Nat.le_refl _), h3l, by omega⟩
theorem readRec_ok (ao : Option Addr) (cap : Nat) (xs : List Int) (w : World) (h : Row w ao xs) (hn : xs.length = 40) (hi : isRec xs = true) :
    Calls Tryd.prog 20 #[.slice ao 40 cap] w fun e w' => e = .returned (.tuple #[(partsR xs).val, .int .i64 0]) ∧ Below w.heap.size w w' := by
  refine (readRec_40 ao cap xs w h hn).mono ?_
  rintro e w' ⟨⟨_, rfl⟩ | ⟨h1, _⟩, hb⟩
  · exact ⟨rfl, hb⟩
  · rw [hi] at h1; cases h1
theorem readRec_bad (ao : Option Addr) (cap : Nat) (xs : List Int) (w : World) (h : Row w ao xs) (hn : xs.length = 40) (hi : isRec xs = false) :
    Calls Tryd.prog 20 #[.slice ao 40 cap] w fun e w' => e = .returned (.tuple #[noRec.val, .int .i64 104]) ∧ Below w.heap.size w w' := by
  refine (readRec_40 ao cap xs w h hn).mono ?_
  rintro e w' ⟨⟨h1, _⟩ | ⟨_, rfl⟩, hb⟩
  · rw [hi] at h1; cases h1
  · exact ⟨rfl, hb⟩
set_option maxRecDepth 100000 in
set_option maxHeartbeats 16000000 in
theorem walk (a0 : R) (a1 : Option Addr) (len1 cap1 : Nat) (z1 : List Int) (a2 : Option Addr) (len2 cap2 : Nat) (z2 : List Int) (a3 a4 : Int) (w : World) (w1 : IsRow .u8 w a1 len1 cap1 z1) (w2 : IsRow .i64 w a2 len2 cap2 z2) (w3 : (Lit.int .i64 a3).wf = true) (w4 : (Lit.int .u8 a4).wf = true) {a : Nat → Addr} (he : ErrsOf w all18 a) :
    Calls Tryd.prog 3 #[a0.val, .slice a1 len1 cap1, .slice a2 len2 cap2, .int .i64 a3, .int .u8 a4] w fun e w' => e = .returned (.bool true) ∧ Below w.heap.size w w' := by
  have HW := hide he
  have HE := hide (errs_read he (mem18 (by omega)) (mem18 (by omega)) (mem18 (by omega)))
  have HI1 := hide w1
  have HI2 := hide w2
  have b4 := wf_u8 w4
  clear he w1 w2 w3 w4
  obtain ⟨b4a, b4b⟩ := b4
  have HC0 := hide (cells10_new w a0)
  have HB := hide (below_box w (recCells a0))
  obtain ⟨X, hX⟩ : ∃ X, X = w.alloc (recCells a0) := ⟨_, rfl⟩
  have HX : Hid (w.alloc (.cells #[.int .i64 a0.kind, .int .i64 a0.txn, .int .i64 a0.page, .int .i64 a0.prev, .int .i64 a0.next, .int .i64 a0.key, .bool a0.had, .bool a0.has, .int .i64 a0.old, .int .i64 a0.new] 23) = X) := hX.symm
  rw [← hX] at HC0 HB
  clear hX
  obtain ⟨B0, hB0⟩ : ∃ B0, B0 = w.heap.size := ⟨_, rfl⟩
  have HB0 := hide hB0
  clear hB0
  unfold R.val
  go_enter Tryd.func3, Tryd.ntmps3
  go_wp2_with fail
  rw [HX.out]
  refine (rfirst_any _ _ (HE.out.step HB.out).range).mono ?_
  rintro e x1 ⟨rfl, hb⟩
  replace HC0 := hide (HC0.out.below hb (Nat.le_refl _))
  replace HB := hide (over HB.out hb HB.out.size)
  clear hb
  by_cases hl1 : len1 ≤ 60
  case neg =>
    have hli : (60 : Int) < (len1 : Int) := by omega
    go_wp2_with fail
    go_ret
    exact ⟨rfl, HB.out⟩
  have hli1 : decide ((60 : Int) < (len1 : Int)) = false := by simp; omega
  by_cases hl2 : len2 ≤ 60
  case neg =>
    have hli : (60 : Int) < (len2 : Int) := by omega
    go_wp2_with fail
    go_ret
    exact ⟨rfl, HB.out⟩
  have hli2 : decide ((60 : Int) < (len2 : Int)) = false := by simp; omega
  have HL1 := hide hl1
  have HL2 := hide hl2
  obtain ⟨xs1, hx1, hr1, _⟩ := IsRow.part HI1.out (by omega)
  have HR1 := hide hr1
  have HN1 := hide hx1
  clear hl1 hl2 hx1 hr1
  go_wp2_with fail
  refine (make_new HI2.out HL2.out HB.out).mono ?_
  rintro e x2 ⟨s, rfl, hg, hf, hb⟩
  have HGs := hide hg
  replace HC0 := hide (HC0.out.below hb (Nat.le_refl _))
  replace HB := hide (over HB.out hb HB.out.size)
  clear hg hf hb
  have HCs := hide (cells10_new x2 s)
  have hbs := below_box x2 (recCells s)
  replace HC0 := hide (HC0.out.below hbs (Nat.le_refl _))
  replace HB := hide (over HB.out hbs HB.out.size)
  clear hbs
  unfold R.val
  unfold recCells at HCs HC0 HB
  go_wp2_with fail
  refine (refBytes_good s _ HGs.out).mono ?_
  rintro e x3 ⟨gc, rfl, hgc, hown, hb⟩
  have HOc := hide hown
  replace HC0 := hide (HC0.out.below hb (Nat.le_refl _))
  replace HCs := hide (HCs.out.below hb (Nat.le_refl _))
  replace HB := hide (over HB.out hb HB.out.size)
  obtain ⟨Bs, hBs⟩ : ∃ Bs, Bs = x2.heap.size := ⟨_, rfl⟩
  rw [← hBs] at HCs ⊢
  clear hgc hown hb hBs
  go_wp2_with fail
  refine (copy_len _ _ _ (recB s) _ HOc.out.row (length_recB s)).mono ?_
  rintro e x4 ⟨gd, rfl, hgd, hown, hb⟩
  have HOd := hide hown
  have HGD := hide hgd
  have HGW := hide (Nat.le_trans HB.out.size hgd)
  have HBD := hide hb
  replace HB := hide (over HB.out hb HB.out.size)
  clear hgd hown hb
  go_wp2_with fail
  refine (number_any _ _ _ (by omega) (by omega)).mono ?_
  rintro e x5 ⟨rfl, rfl⟩
  have hp := numberB_bd a3 40 (by omega)
  obtain ⟨p, hp'⟩ : ∃ p : Nat, numberB a3 40 = p := ⟨(numberB a3 40).toNat, by omega⟩
  rw [hp'] at hp ⊢
  have hp40 : p < 40 := by omega
  have hpi : (p : Int) < 40 := by omega
  clear hp hp'
  have hc := HOd.out.cell p (by rw [length_recB]; exact hp40)
  obtain ⟨y, hy⟩ : ∃ y, y = (recB s).getD p 0 := ⟨_, rfl⟩
  rw [← hy] at hc
  clear hy
  have hfz := HOd.out.frozen p
  have hxb := xor_bd y a4
  obtain ⟨v, hv⟩ : ∃ v, v = bits .xor .u8 y a4 := ⟨_, rfl⟩
  rw [← hv] at hxb
  have HVE := hide hv
  have HXB := hide hxb
  clear hv hxb
  go_upto_region 11 with fail
  clear hc hfz
  rw [← HVE.out]
  have HD := hide (HOd.out.stored p v HXB.out.1 HXB.out.2)
  have hbset := HBD.out.setCell (p := ⟨gd, p, none⟩) HGD.out (.int .u8 v)
  replace HOc := hide (HOc.out.below hbset (Nat.le_refl _))
  replace HC0 := hide (HC0.out.below hbset (Nat.le_refl _))
  replace HCs := hide (HCs.out.below hbset (Nat.le_refl _))
  replace HB := hide (HB.out.setCell (p := ⟨gd, p, none⟩) HGW.out (.int .u8 v))
  clear hbset HOd HBD HGD HGW HXB
  obtain ⟨ds, hds⟩ : ∃ ds, ds = (recB s).set p v := ⟨_, rfl⟩
  have HDL : Hid (ds.length = 40) := by show ds.length = 40; rw [hds, List.length_set, length_recB]
  rw [← hds] at HD
  clear hds HVE
  obtain ⟨Y, hY⟩ : ∃ Y, Y = x5.setCell ⟨gd, p, none⟩ (.int .u8 v) := ⟨_, rfl⟩
  rw [← hY] at HD HOc HC0 HCs HB ⊢
  clear hY HI1 HI2 HX
  cases hg0 : goodB a0 with
  | true =>
    obtain ⟨k0, k1, k2, k3, k4, k5, k6, k7, k8, k9, kl⟩ := HC0.out
    go_wp2_with fail
    clear k0 k1 k2 k3 k4 k5 k6 k7 k8 k9 kl
    refine (recBytes_good a0 _ _ (HE.out.step HB.out).range hg0).mono ?_
    rintro e y1 ⟨gx, rfl, hgx, hown, hb⟩
    have HOx := hide hown
    clear hgx hown
    replace HD := hide (HD.out.below hb (Nat.le_refl _))
    replace HOc := hide (HOc.out.below hb (Nat.le_refl _))
    replace HC0 := hide (HC0.out.below hb (Nat.le_refl _))
    replace HCs := hide (HCs.out.below hb (Nat.le_refl _))
    replace HB := hide (over HB.out hb HB.out.size)
    clear hb
    obtain ⟨k0, k1, k2, k3, k4, k5, k6, k7, k8, k9, kl⟩ := HC0.out
    go_wp2_with fail
    clear k0 k1 k2 k3 k4 k5 k6 k7 k8 k9 kl
    refine (goodRec_any a0 _).mono ?_
    rintro e y2 ⟨rfl, hb⟩
    rw [hg0]
    replace HOx := hide (HOx.out.below hb (Nat.le_refl _))
    replace HD := hide (HD.out.below hb (Nat.le_refl _))
    replace HOc := hide (HOc.out.below hb (Nat.le_refl _))
    replace HC0 := hide (HC0.out.below hb (Nat.le_refl _))
    replace HCs := hide (HCs.out.below hb (Nat.le_refl _))
    replace HB := hide (over HB.out hb HB.out.size)
    clear hb
    go_wp2_with fail
    refine (is_ok _).mono ?_
    rintro e y3 ⟨rfl, hb⟩
    replace HOx := hide (HOx.out.below hb (Nat.le_refl _))
    replace HD := hide (HD.out.below hb (Nat.le_refl _))
    replace HOc := hide (HOc.out.below hb (Nat.le_refl _))
    replace HC0 := hide (HC0.out.below hb (Nat.le_refl _))
    replace HCs := hide (HCs.out.below hb (Nat.le_refl _))
    replace HB := hide (over HB.out hb HB.out.size)
    clear hb
    obtain ⟨k0, k1, k2, k3, k4, k5, k6, k7, k8, k9, kl⟩ := HC0.out
    go_wp2_with fail
    clear k0 k1 k2 k3 k4 k5 k6 k7 k8 k9 kl
    refine (check_any a0 _ _ (HE.out.step HB.out).range).mono ?_
    rintro e y4 ⟨rfl, hb⟩
    rw [checkV_good hg0]
    replace HOx := hide (HOx.out.below hb (Nat.le_refl _))
    replace HD := hide (HD.out.below hb (Nat.le_refl _))
    replace HOc := hide (HOc.out.below hb (Nat.le_refl _))
    replace HC0 := hide (HC0.out.below hb (Nat.le_refl _))
    replace HCs := hide (HCs.out.below hb (Nat.le_refl _))
    replace HB := hide (over HB.out hb HB.out.size)
    clear hb
    go_wp2_with fail
    refine (is_ok _).mono ?_
    rintro e y5 ⟨rfl, hb⟩
    replace HOx := hide (HOx.out.below hb (Nat.le_refl _))
    replace HD := hide (HD.out.below hb (Nat.le_refl _))
    replace HOc := hide (HOc.out.below hb (Nat.le_refl _))
    replace HC0 := hide (HC0.out.below hb (Nat.le_refl _))
    replace HCs := hide (HCs.out.below hb (Nat.le_refl _))
    replace HB := hide (over HB.out hb HB.out.size)
    clear hb
    obtain ⟨k0, k1, k2, k3, k4, k5, k6, k7, k8, k9, kl⟩ := HC0.out
    go_wp2_with fail
    clear k0 k1 k2 k3 k4 k5 k6 k7 k8 k9 kl
    refine (refBytes_good a0 _ hg0).mono ?_
    rintro e y6 ⟨gr, rfl, hgr, hown, hb⟩
    have HOr := hide hown
    clear hgr hown
    replace HOx := hide (HOx.out.below hb (Nat.le_refl _))
    replace HD := hide (HD.out.below hb (Nat.le_refl _))
    replace HOc := hide (HOc.out.below hb (Nat.le_refl _))
    replace HC0 := hide (HC0.out.below hb (Nat.le_refl _))
    replace HCs := hide (HCs.out.below hb (Nat.le_refl _))
    replace HB := hide (over HB.out hb HB.out.size)
    clear hb
    go_wp2_with fail
    refine (same_len _ _ _ (recB a0) _ _ _ (recB a0) _ HOx.out.row HOr.out.row (length_recB a0) (length_recB a0)).mono ?_
    rintro e y7 ⟨rfl, nd, rfl⟩
    rw [sameB_true rfl]
    clear HOx HOr
    have HB7 := hide (below_drewN HB.out nd)
    have HC7 : Hid (Cells10 (y6.drewN nd) w.heap.size a0) := ⟨HC0.out.c0, HC0.out.c1, HC0.out.c2, HC0.out.c3, HC0.out.c4, HC0.out.c5, HC0.out.c6, HC0.out.c7, HC0.out.c8, HC0.out.c9, HC0.out.lt⟩
    have HS7 : Hid (Cells10 (y6.drewN nd) Bs s) := ⟨HCs.out.c0, HCs.out.c1, HCs.out.c2, HCs.out.c3, HCs.out.c4, HCs.out.c5, HCs.out.c6, HCs.out.c7, HCs.out.c8, HCs.out.c9, HCs.out.lt⟩
    have HD7 := hide (HD.out.row.drewN nd)
    have HO7 := hide (HOc.out.row.drewN nd)
    obtain ⟨Y7, hY7⟩ : ∃ Y7, Y7 = y6.drewN nd := ⟨_, rfl⟩
    rw [← hY7] at HB7 HC7 HS7 HD7 HO7 ⊢
    clear hY7 HB HC0 HCs HD HOc
    have HBX := hide (below_box Y7 (.cells #[.slice a1 len1 cap1, .slice (some ⟨gc, 0, none⟩) 40 40, .slice (some ⟨gd, 0, none⟩) 40 40] 24))
    have HT := hide (three_of (c := cap1) (HR1.out.below HB7.out (Nat.le_refl _)) HN1.out HL1.out HO7.out (length_recB s) HD7.out HDL.out)
    have HCZ := hide (HC7.out.below HBX.out (Nat.le_refl _))
    have HSZ := hide (HS7.out.below HBX.out (Nat.le_refl _))
    have HBZ := hide (over HB7.out HBX.out HB7.out.size)
    obtain ⟨Z, hZ⟩ : ∃ Z, Z = Y7.alloc (.cells #[.slice a1 len1 cap1, .slice (some ⟨gc, 0, none⟩) 40 40, .slice (some ⟨gd, 0, none⟩) 40 40] 24) := ⟨_, rfl⟩
    have HZE := hide hZ
    rw [← hZ] at HT HCZ HSZ HBZ
    have HGL : Hid (Y7.heap.size < Z.heap.size) := by show Y7.heap.size < Z.heap.size; rw [hZ]; simp
    clear hZ HBX HB7 HC7 HS7 HD7 HO7
    go_wp2_with fail
    rw [← HZE.out]
    obtain ⟨G, hG⟩ : ∃ G, G = Y7.heap.size := ⟨_, rfl⟩
    rw [← hG] at HT HGL ⊢
    clear hG HZE
    go_loopw [20] (fun i wr => ∃ k : Nat, k ≤ 3 ∧ i = .int .i64 k ∧ Below Z.heap.size Z wr) (fun i _ => 3 - (intOf i).toNat)
    case atStart => exact ⟨0, by omega, rfl, Below.refl _ _⟩
    case round =>
      obtain ⟨k, hk, rfl, hb⟩ := hrel
      have HBz := hide hb
      have HBw := hide (over HBZ.out hb HBZ.out.size)
      clear hb
      by_cases hlt : k < 3
      · have hki : (k : Int) < 3 := by omega
        obtain ⟨ao, n, c, xs, hce, hrow, hn, hn60⟩ := HT.out k hlt
        have HCL := hide hce
        have HRw := hide (hrow.below HBz.out (Nat.le_refl _))
        have HNx := hide hn
        have hcell := (HBz.out.cell (p := ⟨G, k, none⟩) HGL.out).trans hce
        clear hce hrow hn
        by_cases h40 : n = 40
        · subst h40
          cases hir : isRec xs with
          | true =>
            go_wp2_with fail
            refine (read_ok ao c xs _ HRw.out (HE.out.step HBw.out) HNx.out hir).mono ?_
            rintro e z1 ⟨rfl, hb⟩
            obtain ⟨ry, hry⟩ : ∃ ry, ry = (partsR xs) := ⟨_, rfl⟩
            rw [← hry]
            have HRY := hide hry
            clear hry hcell
            have hbx := below_box z1 (recCells ry)
            have HCy := hide (cells10_new z1 ry)
            replace HBz := hide (over (over HBz.out hb HBz.out.size) hbx (Nat.le_trans HBz.out.size hb.size))
            replace HBw := hide (over (over HBw.out hb HBw.out.size) hbx (Nat.le_trans HBw.out.size hb.size))
            replace HRw := hide ((HRw.out.below hb (Nat.le_refl _)).below hbx (Nat.le_refl _))
            have hcell := (HBz.out.cell HGL.out).trans HCL.out
            clear hb hbx
            unfold R.val
            unfold recCells at HCy HBz HBw HRw hcell
            go_wp2_with fail
            clear hcell
            refine (readRec_ok ao c xs _ HRw.out HNx.out hir).mono ?_
            rintro e z2 ⟨rfl, hb⟩
            rw [← HRY.out]
            replace HCy := hide (HCy.out.below hb (Nat.le_refl _))
            replace HBz := hide (over HBz.out hb HBz.out.size)
            replace HBw := hide (over HBw.out hb HBw.out.size)
            obtain ⟨M1, hM1⟩ : ∃ M1, M1 = z1.heap.size := ⟨_, rfl⟩
            rw [← hM1] at HCy ⊢
            clear hb hM1
            have hbx := below_box z2 (recCells ry)
            replace HCy := hide (HCy.out.below hbx (Nat.le_refl _))
            replace HBz := hide (over HBz.out hbx HBz.out.size)
            replace HBw := hide (over HBw.out hbx HBw.out.size)
            clear hbx
            unfold R.val
            unfold recCells at HCy HBz HBw
            obtain ⟨k0, k1, k2, k3, k4, k5, k6, k7, k8, k9, kl⟩ := HCy.out
            go_wp2_with fail
            clear k0 k1 k2 k3 k4 k5 k6 k7 k8 k9 kl
            refine (sameRec_same ry _).mono ?_
            rintro e z3 ⟨rfl, hb⟩
            replace HBz := hide (over HBz.out hb HBz.out.size)
            replace HBw := hide (over HBw.out hb HBw.out.size)
            clear hb
            go_wp2_with fail
            refine (is_ok _).mono ?_
            rintro e z4 ⟨rfl, hb⟩
            replace HBz := hide (over HBz.out hb HBz.out.size)
            clear hb
            go_wp2_with fail
            go_roundw
            case rel => exact ⟨k + 1, by omega, by go_num, HBz.out⟩
            case measure => simp [intOf]; omega
          | false =>
            go_wp2_with fail
            refine (read_bad ao c xs _ HRw.out (HE.out.step HBw.out) HNx.out hir).mono ?_
            rintro e z1 ⟨rfl, hb⟩
            obtain ⟨ry, hry⟩ : ∃ ry, ry = noRec := ⟨_, rfl⟩
            rw [← hry]
            have HRY := hide hry
            clear hry hcell
            have hbx := below_box z1 (recCells ry)
            have HCy := hide (cells10_new z1 ry)
            replace HBz := hide (over (over HBz.out hb HBz.out.size) hbx (Nat.le_trans HBz.out.size hb.size))
            replace HBw := hide (over (over HBw.out hb HBw.out.size) hbx (Nat.le_trans HBw.out.size hb.size))
            replace HRw := hide ((HRw.out.below hb (Nat.le_refl _)).below hbx (Nat.le_refl _))
            have hcell := (HBz.out.cell HGL.out).trans HCL.out
            clear hb hbx
            unfold R.val
            unfold recCells at HCy HBz HBw HRw hcell
            go_wp2_with fail
            clear hcell
            refine (readRec_bad ao c xs _ HRw.out HNx.out hir).mono ?_
            rintro e z2 ⟨rfl, hb⟩
            rw [← HRY.out]
            replace HCy := hide (HCy.out.below hb (Nat.le_refl _))
            replace HBz := hide (over HBz.out hb HBz.out.size)
            replace HBw := hide (over HBw.out hb HBw.out.size)
            obtain ⟨M1, hM1⟩ : ∃ M1, M1 = z1.heap.size := ⟨_, rfl⟩
            rw [← hM1] at HCy ⊢
            clear hb hM1
            have hbx := below_box z2 (recCells ry)
            replace HCy := hide (HCy.out.below hbx (Nat.le_refl _))
            replace HBz := hide (over HBz.out hbx HBz.out.size)
            replace HBw := hide (over HBw.out hbx HBw.out.size)
            clear hbx
            unfold R.val
            unfold recCells at HCy HBz HBw
            obtain ⟨k0, k1, k2, k3, k4, k5, k6, k7, k8, k9, kl⟩ := HCy.out
            go_wp2_with fail
            clear k0 k1 k2 k3 k4 k5 k6 k7 k8 k9 kl
            refine (sameRec_same ry _).mono ?_
            rintro e z3 ⟨rfl, hb⟩
            replace HBz := hide (over HBz.out hb HBz.out.size)
            replace HBw := hide (over HBw.out hb HBw.out.size)
            clear hb
            go_wp2_with fail
            refine (is_err _ a 3 (by omega) _ (by omega) (HW.out.step HBw.out)).mono ?_
            rintro e z4 ⟨rfl, hb⟩
            replace HBz := hide (over HBz.out hb HBz.out.size)
            clear hb
            go_wp2_with fail
            go_roundw
            case rel => exact ⟨k + 1, by omega, by go_num, HBz.out⟩
            case measure => simp [intOf]; omega
        · go_wp2_with fail
          refine (read_short ao n c _ (HE.out.step HBw.out) h40).mono ?_
          rintro e z1 ⟨rfl, hb⟩
          obtain ⟨ry, hry⟩ : ∃ ry, ry = noRec := ⟨_, rfl⟩
          rw [← hry]
          have HRY := hide hry
          clear hry hcell
          have hbx := below_box z1 (recCells ry)
          have HCy := hide (cells10_new z1 ry)
          replace HBz := hide (over (over HBz.out hb HBz.out.size) hbx (Nat.le_trans HBz.out.size hb.size))
          replace HBw := hide (over (over HBw.out hb HBw.out.size) hbx (Nat.le_trans HBw.out.size hb.size))
          replace HRw := hide ((HRw.out.below hb (Nat.le_refl _)).below hbx (Nat.le_refl _))
          have hcell := (HBz.out.cell HGL.out).trans HCL.out
          clear hb hbx
          unfold R.val
          unfold recCells at HCy HBz HBw HRw hcell
          go_wp2_with fail
          clear hcell
          refine (readRec_short ao n c _ h40).mono ?_
          rintro e z2 ⟨rfl, hb⟩
          rw [← HRY.out]
          replace HCy := hide (HCy.out.below hb (Nat.le_refl _))
          replace HBz := hide (over HBz.out hb HBz.out.size)
          replace HBw := hide (over HBw.out hb HBw.out.size)
          obtain ⟨M1, hM1⟩ : ∃ M1, M1 = z1.heap.size := ⟨_, rfl⟩
          rw [← hM1] at HCy ⊢
          clear hb hM1
          have hbx := below_box z2 (recCells ry)
          replace HCy := hide (HCy.out.below hbx (Nat.le_refl _))
          replace HBz := hide (over HBz.out hbx HBz.out.size)
          replace HBw := hide (over HBw.out hbx HBw.out.size)
          clear hbx
          unfold R.val
          unfold recCells at HCy HBz HBw
          obtain ⟨k0, k1, k2, k3, k4, k5, k6, k7, k8, k9, kl⟩ := HCy.out
          go_wp2_with fail
          clear k0 k1 k2 k3 k4 k5 k6 k7 k8 k9 kl
          refine (sameRec_same ry _).mono ?_
          rintro e z3 ⟨rfl, hb⟩
          replace HBz := hide (over HBz.out hb HBz.out.size)
          replace HBw := hide (over HBw.out hb HBw.out.size)
          clear hb
          go_wp2_with fail
          refine (is_err _ a 2 (by omega) _ (by omega) (HW.out.step HBw.out)).mono ?_
          rintro e z4 ⟨rfl, hb⟩
          replace HBz := hide (over HBz.out hb HBz.out.size)
          clear hb
          go_wp2_with fail
          go_roundw
          case rel => exact ⟨k + 1, by omega, by go_num, HBz.out⟩
          case measure => simp [intOf]; omega
      · have hki : decide ((k : Int) < 3) = false := by simp; omega
        clear hlt hk
        have HCa := hide (HCZ.out.below HBz.out (Nat.le_refl _))
        have HCb := hide (HSZ.out.below HBz.out (Nat.le_refl _))
        have HER : Hid (wr.drew.cell? ⟨0, 0, none⟩ = some (errV (a 1))) := (HE.out.step HBw.out).range
        obtain ⟨c0, c1, c2, c3, c4, c5, c6, c7, c8, c9, cl⟩ := HCa.out
        obtain ⟨d0, d1, d2, d3, d4, d5, d6, d7, d8, d9, dl⟩ := HCb.out
        clear cl dl
        go_wp2_with fail
        go_region_held3 (fun w' => w'.cell? ⟨w.heap.size, 0, none⟩ = some (.int .i64 a0.kind) ∧ w'.cell? ⟨w.heap.size, 1, none⟩ = some (.int .i64 a0.txn) ∧ w'.cell? ⟨w.heap.size, 2, none⟩ = some (.int .i64 a0.page) ∧ w'.cell? ⟨w.heap.size, 3, none⟩ = some (.int .i64 a0.prev) ∧ w'.cell? ⟨w.heap.size, 4, none⟩ = some (.int .i64 a0.next) ∧ w'.cell? ⟨w.heap.size, 5, none⟩ = some (.int .i64 a0.key) ∧ w'.cell? ⟨w.heap.size, 6, none⟩ = some (.bool a0.had) ∧ w'.cell? ⟨w.heap.size, 7, none⟩ = some (.bool a0.has) ∧ w'.cell? ⟨w.heap.size, 8, none⟩ = some (.int .i64 a0.old) ∧ w'.cell? ⟨w.heap.size, 9, none⟩ = some (.int .i64 a0.new) ∧ w'.cell? ⟨Bs, 0, none⟩ = some (.int .i64 s.kind) ∧ w'.cell? ⟨Bs, 1, none⟩ = some (.int .i64 s.txn) ∧ w'.cell? ⟨Bs, 2, none⟩ = some (.int .i64 s.page) ∧ w'.cell? ⟨Bs, 3, none⟩ = some (.int .i64 s.prev) ∧ w'.cell? ⟨Bs, 4, none⟩ = some (.int .i64 s.next) ∧ w'.cell? ⟨Bs, 5, none⟩ = some (.int .i64 s.key) ∧ w'.cell? ⟨Bs, 6, none⟩ = some (.bool s.had) ∧ w'.cell? ⟨Bs, 7, none⟩ = some (.bool s.has) ∧ w'.cell? ⟨Bs, 8, none⟩ = some (.int .i64 s.old) ∧ w'.cell? ⟨Bs, 9, none⟩ = some (.int .i64 s.new)) (first | go_keep | (refine ⟨?_, ?_, ?_, ?_, ?_, ?_, ?_, ?_, ?_, ?_, ?_, ?_, ?_, ?_, ?_, ?_, ?_, ?_, ?_, ?_⟩ <;> assumption))
          (first
          | (go_at_call 17; refine (check_any s _ (a 1) HER.out).mono ?_; rintro e q1 ⟨rfl, hbq1⟩; rw [checkV_good HGs.out]; have hbq1 := of_drew hbq1; have HA1 := hide (HCa.out.below hbq1 (Nat.le_refl _)); have HS1 := hide (HCb.out.below hbq1 (Nat.le_refl _)); have HBq1 := hide (over HBw.out hbq1 HBw.out.size); clear hbq1; obtain ⟨m0, m1, m2, m3, m4, m5, m6, m7, m8, m9, ml⟩ := HA1.out; obtain ⟨t0, t1, t2, t3, t4, t5, t6, t7, t8, t9, tl⟩ := HS1.out; clear ml tl)
          | (go_at_call 22; refine (recSame_any a0 s _).mono ?_; rintro e q2 ⟨rfl, hbq2⟩; have HA2 := hide (HA1.out.below hbq2 (Nat.le_refl _)); have HS2 := hide (HS1.out.below hbq2 (Nat.le_refl _)); have HBq2 := hide (over HBq1.out hbq2 HBq1.out.size); clear hbq2; obtain ⟨n0, n1, n2, n3, n4, n5, n6, n7, n8, n9, nl⟩ := HA2.out; obtain ⟨u0, u1, u2, u3, u4, u5, u6, u7, u8, u9, ul⟩ := HS2.out; clear nl ul)
          | (go_at_call 21; refine (sameRec_any a0 s _).mono ?_; rintro e q3 ⟨rfl, hbq3⟩; have HA3 := hide (HA2.out.below hbq3 (Nat.le_refl _)); have HS3 := hide (HS2.out.below hbq3 (Nat.le_refl _)); have HBq3 := hide (over HBq2.out hbq3 HBq2.out.size); clear hbq3; obtain ⟨o0, o1, o2, o3, o4, o5, o6, o7, o8, o9, ol⟩ := HA3.out; obtain ⟨v0, v1, v2, v3, v4, v5, v6, v7, v8, v9, vl⟩ := HS3.out; clear ol vl)
          | (go_at_call 22; refine (recSame_any s s _).mono ?_; rintro e q4 ⟨rfl, hbq4⟩; rw [(sameR_iff s s).2 rfl]; have HA4 := hide (HA3.out.below hbq4 (Nat.le_refl _)); have HS4 := hide (HS3.out.below hbq4 (Nat.le_refl _)); have HBq4 := hide (over HBq3.out hbq4 HBq3.out.size); clear hbq4; obtain ⟨p0, p1, p2, p3, p4, p5, p6, p7, p8, p9, pl⟩ := HA4.out; obtain ⟨x0_, x1_, x2_, x3_, x4_, x5_, x6_, x7_, x8_, x9_, wl⟩ := HS4.out; clear pl wl))
        all_goals
          go_wp2_with fail
          go_ret
          exact ⟨rfl, HBq4.out⟩
  | false =>
    obtain ⟨k0, k1, k2, k3, k4, k5, k6, k7, k8, k9, kl⟩ := HC0.out
    go_wp2_with fail
    clear k0 k1 k2 k3 k4 k5 k6 k7 k8 k9 kl
    refine (recBytes_bad a0 _ _ (HE.out.step HB.out).range hg0).mono ?_
    rintro e y1 ⟨rfl, hb⟩
    replace HD := hide (HD.out.below hb (Nat.le_refl _))
    replace HOc := hide (HOc.out.below hb (Nat.le_refl _))
    replace HC0 := hide (HC0.out.below hb (Nat.le_refl _))
    replace HCs := hide (HCs.out.below hb (Nat.le_refl _))
    replace HB := hide (over HB.out hb HB.out.size)
    clear hb
    obtain ⟨k0, k1, k2, k3, k4, k5, k6, k7, k8, k9, kl⟩ := HC0.out
    go_wp2_with fail
    clear k0 k1 k2 k3 k4 k5 k6 k7 k8 k9 kl
    refine (goodRec_any a0 _).mono ?_
    rintro e y2 ⟨rfl, hb⟩
    rw [hg0]
    replace HD := hide (HD.out.below hb (Nat.le_refl _))
    replace HOc := hide (HOc.out.below hb (Nat.le_refl _))
    replace HC0 := hide (HC0.out.below hb (Nat.le_refl _))
    replace HCs := hide (HCs.out.below hb (Nat.le_refl _))
    replace HB := hide (over HB.out hb HB.out.size)
    clear hb
    go_wp2_with fail
    refine (is_err _ a 1 (by omega) _ (by omega) (HW.out.step HB.out)).mono ?_
    rintro e y3 ⟨rfl, hb⟩
    replace HD := hide (HD.out.below hb (Nat.le_refl _))
    replace HOc := hide (HOc.out.below hb (Nat.le_refl _))
    replace HC0 := hide (HC0.out.below hb (Nat.le_refl _))
    replace HCs := hide (HCs.out.below hb (Nat.le_refl _))
    replace HB := hide (over HB.out hb HB.out.size)
    clear hb
    obtain ⟨k0, k1, k2, k3, k4, k5, k6, k7, k8, k9, kl⟩ := HC0.out
    go_wp2_with fail
    clear k0 k1 k2 k3 k4 k5 k6 k7 k8 k9 kl
    refine (check_any a0 _ _ (HE.out.step HB.out).range).mono ?_
    rintro e y4 ⟨rfl, hb⟩
    rw [checkV_bad hg0]
    replace HD := hide (HD.out.below hb (Nat.le_refl _))
    replace HOc := hide (HOc.out.below hb (Nat.le_refl _))
    replace HC0 := hide (HC0.out.below hb (Nat.le_refl _))
    replace HCs := hide (HCs.out.below hb (Nat.le_refl _))
    replace HB := hide (over HB.out hb HB.out.size)
    clear hb
    go_wp2_with fail
    refine (is_err _ a 1 (by omega) _ (by omega) (HW.out.step HB.out)).mono ?_
    rintro e y5 ⟨rfl, hb⟩
    replace HD := hide (HD.out.below hb (Nat.le_refl _))
    replace HOc := hide (HOc.out.below hb (Nat.le_refl _))
    replace HC0 := hide (HC0.out.below hb (Nat.le_refl _))
    replace HCs := hide (HCs.out.below hb (Nat.le_refl _))
    replace HB := hide (over HB.out hb HB.out.size)
    clear hb
    have HB7 := HB
    have HC7 := HC0
    have HS7 := HCs
    have HD7 := hide HD.out.row
    have HO7 := hide HOc.out.row
    clear HB HC0 HCs HD HOc
    obtain ⟨Y7, hY7⟩ : ∃ Y7, Y7 = y5 := ⟨_, rfl⟩
    rw [← hY7] at HB7 HC7 HS7 HD7 HO7 ⊢
    clear hY7
    have HBX := hide (below_box Y7 (.cells #[.slice a1 len1 cap1, .slice (some ⟨gc, 0, none⟩) 40 40, .slice (some ⟨gd, 0, none⟩) 40 40] 24))
    have HT := hide (three_of (c := cap1) (HR1.out.below HB7.out (Nat.le_refl _)) HN1.out HL1.out HO7.out (length_recB s) HD7.out HDL.out)
    have HCZ := hide (HC7.out.below HBX.out (Nat.le_refl _))
    have HSZ := hide (HS7.out.below HBX.out (Nat.le_refl _))
    have HBZ := hide (over HB7.out HBX.out HB7.out.size)
    obtain ⟨Z, hZ⟩ : ∃ Z, Z = Y7.alloc (.cells #[.slice a1 len1 cap1, .slice (some ⟨gc, 0, none⟩) 40 40, .slice (some ⟨gd, 0, none⟩) 40 40] 24) := ⟨_, rfl⟩
    have HZE := hide hZ
    rw [← hZ] at HT HCZ HSZ HBZ
    have HGL : Hid (Y7.heap.size < Z.heap.size) := by show Y7.heap.size < Z.heap.size; rw [hZ]; simp
    clear hZ HBX HB7 HC7 HS7 HD7 HO7
    go_wp2_with fail
    rw [← HZE.out]
    obtain ⟨G, hG⟩ : ∃ G, G = Y7.heap.size := ⟨_, rfl⟩
    rw [← hG] at HT HGL ⊢
    clear hG HZE
    go_loopw [20] (fun i wr => ∃ k : Nat, k ≤ 3 ∧ i = .int .i64 k ∧ Below Z.heap.size Z wr) (fun i _ => 3 - (intOf i).toNat)
    case atStart => exact ⟨0, by omega, rfl, Below.refl _ _⟩
    case round =>
      obtain ⟨k, hk, rfl, hb⟩ := hrel
      have HBz := hide hb
      have HBw := hide (over HBZ.out hb HBZ.out.size)
      clear hb
      by_cases hlt : k < 3
      · have hki : (k : Int) < 3 := by omega
        obtain ⟨ao, n, c, xs, hce, hrow, hn, hn60⟩ := HT.out k hlt
        have HCL := hide hce
        have HRw := hide (hrow.below HBz.out (Nat.le_refl _))
        have HNx := hide hn
        have hcell := (HBz.out.cell (p := ⟨G, k, none⟩) HGL.out).trans hce
        clear hce hrow hn
        by_cases h40 : n = 40
        · subst h40
          cases hir : isRec xs with
          | true =>
            go_wp2_with fail
            refine (read_ok ao c xs _ HRw.out (HE.out.step HBw.out) HNx.out hir).mono ?_
            rintro e z1 ⟨rfl, hb⟩
            obtain ⟨ry, hry⟩ : ∃ ry, ry = (partsR xs) := ⟨_, rfl⟩
            rw [← hry]
            have HRY := hide hry
            clear hry hcell
            have hbx := below_box z1 (recCells ry)
            have HCy := hide (cells10_new z1 ry)
            replace HBz := hide (over (over HBz.out hb HBz.out.size) hbx (Nat.le_trans HBz.out.size hb.size))
            replace HBw := hide (over (over HBw.out hb HBw.out.size) hbx (Nat.le_trans HBw.out.size hb.size))
            replace HRw := hide ((HRw.out.below hb (Nat.le_refl _)).below hbx (Nat.le_refl _))
            have hcell := (HBz.out.cell HGL.out).trans HCL.out
            clear hb hbx
            unfold R.val
            unfold recCells at HCy HBz HBw HRw hcell
            go_wp2_with fail
            clear hcell
            refine (readRec_ok ao c xs _ HRw.out HNx.out hir).mono ?_
            rintro e z2 ⟨rfl, hb⟩
            rw [← HRY.out]
            replace HCy := hide (HCy.out.below hb (Nat.le_refl _))
            replace HBz := hide (over HBz.out hb HBz.out.size)
            replace HBw := hide (over HBw.out hb HBw.out.size)
            obtain ⟨M1, hM1⟩ : ∃ M1, M1 = z1.heap.size := ⟨_, rfl⟩
            rw [← hM1] at HCy ⊢
            clear hb hM1
            have hbx := below_box z2 (recCells ry)
            replace HCy := hide (HCy.out.below hbx (Nat.le_refl _))
            replace HBz := hide (over HBz.out hbx HBz.out.size)
            replace HBw := hide (over HBw.out hbx HBw.out.size)
            clear hbx
            unfold R.val
            unfold recCells at HCy HBz HBw
            obtain ⟨k0, k1, k2, k3, k4, k5, k6, k7, k8, k9, kl⟩ := HCy.out
            go_wp2_with fail
            clear k0 k1 k2 k3 k4 k5 k6 k7 k8 k9 kl
            refine (sameRec_same ry _).mono ?_
            rintro e z3 ⟨rfl, hb⟩
            replace HBz := hide (over HBz.out hb HBz.out.size)
            replace HBw := hide (over HBw.out hb HBw.out.size)
            clear hb
            go_wp2_with fail
            refine (is_ok _).mono ?_
            rintro e z4 ⟨rfl, hb⟩
            replace HBz := hide (over HBz.out hb HBz.out.size)
            clear hb
            go_wp2_with fail
            go_roundw
            case rel => exact ⟨k + 1, by omega, by go_num, HBz.out⟩
            case measure => simp [intOf]; omega
          | false =>
            go_wp2_with fail
            refine (read_bad ao c xs _ HRw.out (HE.out.step HBw.out) HNx.out hir).mono ?_
            rintro e z1 ⟨rfl, hb⟩
            obtain ⟨ry, hry⟩ : ∃ ry, ry = noRec := ⟨_, rfl⟩
            rw [← hry]
            have HRY := hide hry
            clear hry hcell
            have hbx := below_box z1 (recCells ry)
            have HCy := hide (cells10_new z1 ry)
            replace HBz := hide (over (over HBz.out hb HBz.out.size) hbx (Nat.le_trans HBz.out.size hb.size))
            replace HBw := hide (over (over HBw.out hb HBw.out.size) hbx (Nat.le_trans HBw.out.size hb.size))
            replace HRw := hide ((HRw.out.below hb (Nat.le_refl _)).below hbx (Nat.le_refl _))
            have hcell := (HBz.out.cell HGL.out).trans HCL.out
            clear hb hbx
            unfold R.val
            unfold recCells at HCy HBz HBw HRw hcell
            go_wp2_with fail
            clear hcell
            refine (readRec_bad ao c xs _ HRw.out HNx.out hir).mono ?_
            rintro e z2 ⟨rfl, hb⟩
            rw [← HRY.out]
            replace HCy := hide (HCy.out.below hb (Nat.le_refl _))
            replace HBz := hide (over HBz.out hb HBz.out.size)
            replace HBw := hide (over HBw.out hb HBw.out.size)
            obtain ⟨M1, hM1⟩ : ∃ M1, M1 = z1.heap.size := ⟨_, rfl⟩
            rw [← hM1] at HCy ⊢
            clear hb hM1
            have hbx := below_box z2 (recCells ry)
            replace HCy := hide (HCy.out.below hbx (Nat.le_refl _))
            replace HBz := hide (over HBz.out hbx HBz.out.size)
            replace HBw := hide (over HBw.out hbx HBw.out.size)
            clear hbx
            unfold R.val
            unfold recCells at HCy HBz HBw
            obtain ⟨k0, k1, k2, k3, k4, k5, k6, k7, k8, k9, kl⟩ := HCy.out
            go_wp2_with fail
            clear k0 k1 k2 k3 k4 k5 k6 k7 k8 k9 kl
            refine (sameRec_same ry _).mono ?_
            rintro e z3 ⟨rfl, hb⟩
            replace HBz := hide (over HBz.out hb HBz.out.size)
            replace HBw := hide (over HBw.out hb HBw.out.size)
            clear hb
            go_wp2_with fail
            refine (is_err _ a 3 (by omega) _ (by omega) (HW.out.step HBw.out)).mono ?_
            rintro e z4 ⟨rfl, hb⟩
            replace HBz := hide (over HBz.out hb HBz.out.size)
            clear hb
            go_wp2_with fail
            go_roundw
            case rel => exact ⟨k + 1, by omega, by go_num, HBz.out⟩
            case measure => simp [intOf]; omega
        · go_wp2_with fail
          refine (read_short ao n c _ (HE.out.step HBw.out) h40).mono ?_
          rintro e z1 ⟨rfl, hb⟩
          obtain ⟨ry, hry⟩ : ∃ ry, ry = noRec := ⟨_, rfl⟩
          rw [← hry]
          have HRY := hide hry
          clear hry hcell
          have hbx := below_box z1 (recCells ry)
          have HCy := hide (cells10_new z1 ry)
          replace HBz := hide (over (over HBz.out hb HBz.out.size) hbx (Nat.le_trans HBz.out.size hb.size))
          replace HBw := hide (over (over HBw.out hb HBw.out.size) hbx (Nat.le_trans HBw.out.size hb.size))
          replace HRw := hide ((HRw.out.below hb (Nat.le_refl _)).below hbx (Nat.le_refl _))
          have hcell := (HBz.out.cell HGL.out).trans HCL.out
          clear hb hbx
          unfold R.val
          unfold recCells at HCy HBz HBw HRw hcell
          go_wp2_with fail
          clear hcell
          refine (readRec_short ao n c _ h40).mono ?_
          rintro e z2 ⟨rfl, hb⟩
          rw [← HRY.out]
          replace HCy := hide (HCy.out.below hb (Nat.le_refl _))
          replace HBz := hide (over HBz.out hb HBz.out.size)
          replace HBw := hide (over HBw.out hb HBw.out.size)
          obtain ⟨M1, hM1⟩ : ∃ M1, M1 = z1.heap.size := ⟨_, rfl⟩
          rw [← hM1] at HCy ⊢
          clear hb hM1
          have hbx := below_box z2 (recCells ry)
          replace HCy := hide (HCy.out.below hbx (Nat.le_refl _))
          replace HBz := hide (over HBz.out hbx HBz.out.size)
          replace HBw := hide (over HBw.out hbx HBw.out.size)
          clear hbx
          unfold R.val
          unfold recCells at HCy HBz HBw
          obtain ⟨k0, k1, k2, k3, k4, k5, k6, k7, k8, k9, kl⟩ := HCy.out
          go_wp2_with fail
          clear k0 k1 k2 k3 k4 k5 k6 k7 k8 k9 kl
          refine (sameRec_same ry _).mono ?_
          rintro e z3 ⟨rfl, hb⟩
          replace HBz := hide (over HBz.out hb HBz.out.size)
          replace HBw := hide (over HBw.out hb HBw.out.size)
          clear hb
          go_wp2_with fail
          refine (is_err _ a 2 (by omega) _ (by omega) (HW.out.step HBw.out)).mono ?_
          rintro e z4 ⟨rfl, hb⟩
          replace HBz := hide (over HBz.out hb HBz.out.size)
          clear hb
          go_wp2_with fail
          go_roundw
          case rel => exact ⟨k + 1, by omega, by go_num, HBz.out⟩
          case measure => simp [intOf]; omega
      · have hki : decide ((k : Int) < 3) = false := by simp; omega
        clear hlt hk
        have HCa := hide (HCZ.out.below HBz.out (Nat.le_refl _))
        have HCb := hide (HSZ.out.below HBz.out (Nat.le_refl _))
        have HER : Hid (wr.drew.cell? ⟨0, 0, none⟩ = some (errV (a 1))) := (HE.out.step HBw.out).range
        obtain ⟨c0, c1, c2, c3, c4, c5, c6, c7, c8, c9, cl⟩ := HCa.out
        obtain ⟨d0, d1, d2, d3, d4, d5, d6, d7, d8, d9, dl⟩ := HCb.out
        clear cl dl
        go_wp2_with fail
        go_region_held3 (fun w' => w'.cell? ⟨w.heap.size, 0, none⟩ = some (.int .i64 a0.kind) ∧ w'.cell? ⟨w.heap.size, 1, none⟩ = some (.int .i64 a0.txn) ∧ w'.cell? ⟨w.heap.size, 2, none⟩ = some (.int .i64 a0.page) ∧ w'.cell? ⟨w.heap.size, 3, none⟩ = some (.int .i64 a0.prev) ∧ w'.cell? ⟨w.heap.size, 4, none⟩ = some (.int .i64 a0.next) ∧ w'.cell? ⟨w.heap.size, 5, none⟩ = some (.int .i64 a0.key) ∧ w'.cell? ⟨w.heap.size, 6, none⟩ = some (.bool a0.had) ∧ w'.cell? ⟨w.heap.size, 7, none⟩ = some (.bool a0.has) ∧ w'.cell? ⟨w.heap.size, 8, none⟩ = some (.int .i64 a0.old) ∧ w'.cell? ⟨w.heap.size, 9, none⟩ = some (.int .i64 a0.new) ∧ w'.cell? ⟨Bs, 0, none⟩ = some (.int .i64 s.kind) ∧ w'.cell? ⟨Bs, 1, none⟩ = some (.int .i64 s.txn) ∧ w'.cell? ⟨Bs, 2, none⟩ = some (.int .i64 s.page) ∧ w'.cell? ⟨Bs, 3, none⟩ = some (.int .i64 s.prev) ∧ w'.cell? ⟨Bs, 4, none⟩ = some (.int .i64 s.next) ∧ w'.cell? ⟨Bs, 5, none⟩ = some (.int .i64 s.key) ∧ w'.cell? ⟨Bs, 6, none⟩ = some (.bool s.had) ∧ w'.cell? ⟨Bs, 7, none⟩ = some (.bool s.has) ∧ w'.cell? ⟨Bs, 8, none⟩ = some (.int .i64 s.old) ∧ w'.cell? ⟨Bs, 9, none⟩ = some (.int .i64 s.new)) (first | go_keep | (refine ⟨?_, ?_, ?_, ?_, ?_, ?_, ?_, ?_, ?_, ?_, ?_, ?_, ?_, ?_, ?_, ?_, ?_, ?_, ?_, ?_⟩ <;> assumption))
          (first
          | (go_at_call 17; refine (check_any s _ (a 1) HER.out).mono ?_; rintro e q1 ⟨rfl, hbq1⟩; rw [checkV_good HGs.out]; have hbq1 := of_drew hbq1; have HA1 := hide (HCa.out.below hbq1 (Nat.le_refl _)); have HS1 := hide (HCb.out.below hbq1 (Nat.le_refl _)); have HBq1 := hide (over HBw.out hbq1 HBw.out.size); clear hbq1; obtain ⟨m0, m1, m2, m3, m4, m5, m6, m7, m8, m9, ml⟩ := HA1.out; obtain ⟨t0, t1, t2, t3, t4, t5, t6, t7, t8, t9, tl⟩ := HS1.out; clear ml tl)
          | (go_at_call 22; refine (recSame_any a0 s _).mono ?_; rintro e q2 ⟨rfl, hbq2⟩; have HA2 := hide (HA1.out.below hbq2 (Nat.le_refl _)); have HS2 := hide (HS1.out.below hbq2 (Nat.le_refl _)); have HBq2 := hide (over HBq1.out hbq2 HBq1.out.size); clear hbq2; obtain ⟨n0, n1, n2, n3, n4, n5, n6, n7, n8, n9, nl⟩ := HA2.out; obtain ⟨u0, u1, u2, u3, u4, u5, u6, u7, u8, u9, ul⟩ := HS2.out; clear nl ul)
          | (go_at_call 21; refine (sameRec_any a0 s _).mono ?_; rintro e q3 ⟨rfl, hbq3⟩; have HA3 := hide (HA2.out.below hbq3 (Nat.le_refl _)); have HS3 := hide (HS2.out.below hbq3 (Nat.le_refl _)); have HBq3 := hide (over HBq2.out hbq3 HBq2.out.size); clear hbq3; obtain ⟨o0, o1, o2, o3, o4, o5, o6, o7, o8, o9, ol⟩ := HA3.out; obtain ⟨v0, v1, v2, v3, v4, v5, v6, v7, v8, v9, vl⟩ := HS3.out; clear ol vl)
          | (go_at_call 22; refine (recSame_any s s _).mono ?_; rintro e q4 ⟨rfl, hbq4⟩; rw [(sameR_iff s s).2 rfl]; have HA4 := hide (HA3.out.below hbq4 (Nat.le_refl _)); have HS4 := hide (HS3.out.below hbq4 (Nat.le_refl _)); have HBq4 := hide (over HBq3.out hbq4 HBq3.out.size); clear hbq4; obtain ⟨p0, p1, p2, p3, p4, p5, p6, p7, p8, p9, pl⟩ := HA4.out; obtain ⟨x0_, x1_, x2_, x3_, x4_, x5_, x6_, x7_, x8_, x9_, wl⟩ := HS4.out; clear pl wl))
        all_goals
          go_wp2_with fail
          go_ret
          exact ⟨rfl, HBq4.out⟩
end Go.Proofs.YticaldoggdfjiaaDoor.recSays
