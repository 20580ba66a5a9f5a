
/- What the statement ChangeFull asks comes out true, at every key, mark and value; nothing that was there is written. -/
import Derived.Test.YtefgmlmhdjckaabDoorJoin23
import Derived.Test.YtefgmlmhdjckaabDoorJoin20
import Derived.Test.YtefgmlmhdjckaabDoorJoin5
namespace Go.Proofs.YtefgmlmhdjckaabDoor.changeFull
open Go.RowKit
set_option linter.unusedVariables false

/-- The page that is full. -/
def full20 : List (Int × Int) := (List.range 20).map fun (i : Nat) => (2 * (i : Int), (i : Int))
theorem full_len : full20.length = 20 := rfl
theorem full_up : Up full20 := by unfold Up; decide +kernel
theorem full_at (k : Nat) (hk : k < 20) : full20[k]? = some (2 * (k : Int), (k : Int)) := by
  unfold full20
  rw [List.getElem?_map, List.getElem?_range hk]
  rfl
theorem full_has (key : Int) (h0 : 0 ≤ key) (h1 : key < 60) : hasE full20 key = (decide (key % 2 = 0) && decide (key < 40)) := by
  have hk : ∀ n : Fin 60, hasE full20 ((n : Nat) : Int) = (decide (((n : Nat) : Int) % 2 = 0) && decide (((n : Nat) : Int) < 40)) := by decide +kernel
  have := hk ⟨key.toNat, by omega⟩
  rwa [show (((⟨key.toNat, by omega⟩ : Fin 60) : Nat) : Int) = key by simp; omega] at this
theorem cells10_of {w : World} {B : Nat} {r : R} (h : w.heap[B]? = some (.cells #[.int .i64 r.kind, .int .i64 r.txn, .int .i64 r.page, .int .i64 r.prev, .int .i64 r.next, .int .i64 r.key, .bool r.had, .bool r.has, .int .i64 r.old, .int .i64 r.new] 35 (0, 0))) : Cells10 w B r :=
  ⟨(cell_row h 0).trans rfl, (cell_row h 1).trans rfl, (cell_row h 2).trans rfl, (cell_row h 3).trans rfl, (cell_row h 4).trans rfl, (cell_row h 5).trans rfl, (cell_row h 6).trans rfl, (cell_row h 7).trans rfl, (cell_row h 8).trans rfl, (cell_row h 9).trans rfl, lt_of_block h⟩
set_option maxRecDepth 100000 in
set_option maxHeartbeats 16000000 in
theorem walk (a0 : Int) (a1 : Bool) (a2 : Int) (w : World) (w0 : (Lit.int .i64 a0).wf = true) (w2 : (Lit.int .i64 a2).wf = true) {a : Nat → Addr} (he : ErrsOf w all18 a) :
    Calls Tryd.prog 5 #[.int .i64 a0, .bool a1, .int .i64 a2] w fun e w' => e = .returned (.bool true) ∧ Below w.heap.size w w' := by
  have HW := hide he
  have HEP : Hid (∀ x, Below w.heap.size w x → x.cell? ⟨0, 0, none⟩ = some (errV (a 6))) := fun x hb => (he.step hb).cell 6 (mem18 (by omega))
  clear he w0 w2
  go_enter Tryd.func5, Tryd.ntmps5
  go_wp2_with fail
  refine (cfirst_any _).mono ?_
  rintro e x1 ⟨rfl, hb⟩
  have HB := hide hb
  clear hb
  have HB0 := hide HB.out.size
  have hbx := below_box x1 (pageBlock 3 none 0 0)
  have HP := hide (pblk_new x1 3 none 0 0)
  replace HB := hide (over HB.out hbx HB.out.size)
  unfold pageBlock at HB HP
  clear hbx
  go_upto_region 5 with fail
  obtain ⟨P, hP⟩ : ∃ P, P = x1.heap.size := ⟨_, rfl⟩
  rw [← hP] at HP ⊢
  have HPW : Hid (w.heap.size ≤ P) := by show w.heap.size ≤ P; rw [hP]; exact HB0.out
  obtain ⟨Y1, hY1⟩ : ∃ Y1, Y1 = x1.alloc (.cells #[.int .i64 3, .slice none 0 0] 26) := ⟨_, rfl⟩
  rw [← hY1] at HB HP ⊢
  clear hY1
  clear hP
  have HPA := hide (PageAt.mk (w0 := w) HP.out (ownE_nil _ _) rfl HPW.out HB.out)
  clear HP HB
  go_wp2_with fail
  go_loopw [9] (fun i wr => ∃ (k : Nat) (ao : Option Addr) (c : Nat), k ≤ 20 ∧ i = .int .i64 k ∧ PageAt w wr P 3 ao k c (full20.take k)) (fun i _ => 20 - (intOf i).toNat)
  case atStart => exact ⟨0, none, 0, by omega, rfl, HPA.out⟩
  case round =>
    clear HPA
    obtain ⟨k, ao, c, hk, rfl, hpa⟩ := hrel
    have HPA := hide hpa
    clear hpa
    obtain ⟨c0, c1, f1, cl⟩ := HPA.out.cell
    by_cases hlt : k < 20
    case pos =>
      have hki : (k : Int) < 20 := by omega
      have he := full_at k hlt
      obtain ⟨a3, c3, w3, hrun, hc3, hf3, hpa, hoth⟩ := HPA.out.more (by omega) (2 * (k : Int), (k : Int))
      rw [← take_succ_at he] at hpa
      have HRUN := hide hrun
      have HPA2 := hide hpa
      clear he hrun hpa hoth
      go_wp2_with (first | (with_reducible refine buildE (2 * (k : Int), (k : Int)) ?_ ?_; rfl) | (at_builtin; refine wpList_append_runE rfl (.tmp 25) (.tmp 30) 24 rfl _ _ rfl rfl HRUN.out ?_))
      go_roundw
      case rel => exact ⟨k + 1, a3, c3, by omega, by go_num, HPA2.out⟩
      case measure => simp [intOf]; omega
    have hki : decide ((k : Int) < 20) = false := by simp; omega
    have hk20 : k = 20 := by omega
    subst hk20
    clear hlt hk
    have HR := hide HPA.out.own.row
    rw [show full20.take 20 = full20 from rfl] at HR
    have HP : Hid (PBlk wr P 3 ao 20 c) := HPA.out.head
    have HB := hide HPA.out.bel
    clear HPA c0 c1 f1 cl
    go_wp2_with fail
    refine (number_any _ _ _ (by omega) (by omega)).mono ?_
    rintro e x2 ⟨rfl, rfl⟩
    have hkb := numberB_bd a0 60 (by omega)
    obtain ⟨key, hkey⟩ : ∃ key, key = numberB a0 60 := ⟨_, rfl⟩
    rw [← hkey] at hkb ⊢
    obtain ⟨hk0, hk1⟩ := hkb
    clear hkey hki
    have hfh := full_has key hk0 hk1
    clear HPW
    by_cases hev : key % 2 = 0
    case pos =>
      have hev' : (key % 2 == 0) = true := by simpa using hev
      rw [decide_eq_true hev, Bool.true_and] at hfh
      by_cases h40 : key < 40
      case pos =>
        rw [decide_eq_true h40] at hfh
        clear hev
        cases a1
        case true =>
          have HR0 := hide HR.out
          have HP0 := hide HP.out
          have HB0 := hide HB.out
          have hbk := heap_alloc_new x2 (.cells #[.int .i64 2, .int .i64 1, .int .i64 1, .int .i64 0, .int .i64 0, .int .i64 key, .bool true, .bool true, .int .i64 0, .int .i64 0] 35)
          have HLR : Hid (x2.heap.size ≤ x2.heap.size) := Nat.le_refl _
          have hbx := below_box x2 (.cells #[.int .i64 2, .int .i64 1, .int .i64 1, .int .i64 0, .int .i64 0, .int .i64 key, .bool true, .bool true, .int .i64 0, .int .i64 0] 35)
          have HRB : Hid (Cells10 (x2.alloc (.cells #[.int .i64 2, .int .i64 1, .int .i64 1, .int .i64 0, .int .i64 0, .int .i64 key, .bool true, .bool true, .int .i64 0, .int .i64 0] 35)) x2.heap.size ⟨2, 1, 1, 0, 0, key, true, true, 0, 0⟩) := cells10_new x2 ⟨2, 1, 1, 0, 0, key, true, true, 0, 0⟩
          replace HB := hide (over HB.out hbx HB.out.size)
          replace HP := hide (HP.out.step hbx)
          replace HR := hide (HR.out.step hbx)
          clear hbx
          go_upto_region 12 with fail
          obtain ⟨RB, hRB⟩ : ∃ RB, RB = x2.heap.size := ⟨_, rfl⟩
          rw [← hRB] at HRB ⊢
          replace HLR : Hid (x2.heap.size ≤ RB) := by show x2.heap.size ≤ RB; omega
          have HBK := hide hbk
          rw [← hRB] at HBK
          have HBX := hide (below_box x2 (.cells #[.int .i64 2, .int .i64 1, .int .i64 1, .int .i64 0, .int .i64 0, .int .i64 key, .bool true, .bool true, .int .i64 0, .int .i64 0] 35))
          clear hbk
          obtain ⟨Y2, hY2⟩ : ∃ Y2, Y2 = x2.alloc (.cells #[.int .i64 2, .int .i64 1, .int .i64 1, .int .i64 0, .int .i64 0, .int .i64 key, .bool true, .bool true, .int .i64 0, .int .i64 0] 35) := ⟨_, rfl⟩
          rw [← hY2] at HB HP HR HRB HBK HBX ⊢
          clear hY2
          clear hRB
          have r9 := HRB.out.c9
          have hfz : Y2.frozen? ⟨RB, 9, none⟩ = false := by simp [World.frozen?, HBK.out]
          simp only at r9
          go_upto_region 14 with fail
          clear r9 hfz
          obtain ⟨Z, hZ⟩ : ∃ Z, Z = Y2.setCell ⟨RB, 9, none⟩ (.int .i64 a2) := ⟨_, rfl⟩
          have hbZ : Below x2.heap.size x2 Z := by rw [hZ]; exact HBX.out.setCell (p := ⟨RB, 9, none⟩) HLR.out _
          have HRZ : Hid (Cells10 Z RB ⟨2, 1, 1, 0, 0, key, true, true, 0, a2⟩) := by show Cells10 Z RB _; rw [hZ]; exact cells10_of (set_block HBK.out 9 _)
          replace HP := hide (HP0.out.step hbZ)
          replace HR := hide (HR0.out.step hbZ)
          replace HB := hide (over HB0.out hbZ HB0.out.size)
          rw [← hZ]
          clear hZ hbZ HRB HBK HBX
          have k0 := HP.out.c0
          have k1 := HP.out.c1
          obtain ⟨r0, r1, r2, r3, r4, r5, r6, r7, r8, r9, rl⟩ := HRZ.out
          simp only at r0 r1 r2 r3 r4 r5 r6 r7 r8 r9
          clear rl
          have hok : okD ⟨2, 1, 1, 0, 0, key, true, true, 0, a2⟩ full20 = true := by simp [okD, canPut, hfh]
          have hdl : (doneE ⟨2, 1, 1, 0, 0, key, true, true, 0, a2⟩ full20).length = 20 := by simp [doneE, putE, canPut, hfh, len_ins full20 full_up, full_len]
          have HRD := hide (redo_yes 3 4 ao 20 c full20 ⟨2, 1, 1, 0, 0, key, true, true, 0, a2⟩ Z HR.out full_up full_len (by rfl) (by omega) hok)
          unfold R.val pageV at HRD
          simp only at HRD
          go_wp2_with fail
          refine HRD.out.mono ?_
          rintro e x4 ⟨a3, m3, c3, rfl, hm3, hown3, hb⟩
          clear HRD
          have hmn : m3 = 20 := hm3.symm.trans hdl
          subst hmn
          clear hm3 hown3 k0 k1 hok hdl
          replace HB := hide (over HB.out hb HB.out.size)
          replace HP := hide (HP.out.step hb)
          replace HR := hide (HR.out.step hb)
          replace HRZ := hide (HRZ.out.step hb)
          clear hb
          clear r0 r1 r2 r3 r4 r5 r6 r7 r8 r9
          have hbx := below_box x4 (pageBlock 4 a3 20 c3)
          have HQ := hide (pblk_new x4 4 a3 20 c3)
          replace HB := hide (over HB.out hbx HB.out.size)
          replace HP := hide (HP.out.step hbx)
          replace HR := hide (HR.out.step hbx)
          replace HRZ := hide (HRZ.out.step hbx)
          unfold pageBlock at HB HP HR HRZ HQ
          clear hbx
          go_upto_region 15 with fail
          obtain ⟨Q, hQ⟩ : ∃ Q, Q = x4.heap.size := ⟨_, rfl⟩
          rw [← hQ] at HQ ⊢
          obtain ⟨Y3, hY3⟩ : ∃ Y3, Y3 = x4.alloc (.cells #[.int .i64 4, .slice a3 20 c3] 26) := ⟨_, rfl⟩
          rw [← hY3] at HB HP HR HRZ HQ ⊢
          clear hY3
          clear hQ
          have q0 := HQ.out.c0
          have q1 := HQ.out.c1
          go_wp2_with fail
          go_ret
          exact ⟨rfl, HB.out⟩
        case false =>
          have HR0 := hide HR.out
          have HP0 := hide HP.out
          have HB0 := hide HB.out
          have hbk := heap_alloc_new x2 (.cells #[.int .i64 2, .int .i64 1, .int .i64 1, .int .i64 0, .int .i64 0, .int .i64 key, .bool true, .bool false, .int .i64 0, .int .i64 0] 35)
          have HLR : Hid (x2.heap.size ≤ x2.heap.size) := Nat.le_refl _
          have hbx := below_box x2 (.cells #[.int .i64 2, .int .i64 1, .int .i64 1, .int .i64 0, .int .i64 0, .int .i64 key, .bool true, .bool false, .int .i64 0, .int .i64 0] 35)
          have HRB : Hid (Cells10 (x2.alloc (.cells #[.int .i64 2, .int .i64 1, .int .i64 1, .int .i64 0, .int .i64 0, .int .i64 key, .bool true, .bool false, .int .i64 0, .int .i64 0] 35)) x2.heap.size ⟨2, 1, 1, 0, 0, key, true, false, 0, 0⟩) := cells10_new x2 ⟨2, 1, 1, 0, 0, key, true, false, 0, 0⟩
          replace HB := hide (over HB.out hbx HB.out.size)
          replace HP := hide (HP.out.step hbx)
          replace HR := hide (HR.out.step hbx)
          clear hbx
          go_upto_region 12 with fail
          obtain ⟨RB, hRB⟩ : ∃ RB, RB = x2.heap.size := ⟨_, rfl⟩
          rw [← hRB] at HRB ⊢
          replace HLR : Hid (x2.heap.size ≤ RB) := by show x2.heap.size ≤ RB; omega
          have HBK := hide hbk
          rw [← hRB] at HBK
          have HBX := hide (below_box x2 (.cells #[.int .i64 2, .int .i64 1, .int .i64 1, .int .i64 0, .int .i64 0, .int .i64 key, .bool true, .bool false, .int .i64 0, .int .i64 0] 35))
          clear hbk
          obtain ⟨Y4, hY4⟩ : ∃ Y4, Y4 = x2.alloc (.cells #[.int .i64 2, .int .i64 1, .int .i64 1, .int .i64 0, .int .i64 0, .int .i64 key, .bool true, .bool false, .int .i64 0, .int .i64 0] 35) := ⟨_, rfl⟩
          rw [← hY4] at HB HP HR HRB HBK HBX ⊢
          clear hY4
          clear hRB
          have k0 := HP.out.c0
          have k1 := HP.out.c1
          obtain ⟨r0, r1, r2, r3, r4, r5, r6, r7, r8, r9, rl⟩ := HRB.out
          simp only at r0 r1 r2 r3 r4 r5 r6 r7 r8 r9
          clear rl
          have hok : okD ⟨2, 1, 1, 0, 0, key, true, false, 0, 0⟩ full20 = true := by simp [okD, canPut, hfh]
          have hdl : (doneE ⟨2, 1, 1, 0, 0, key, true, false, 0, 0⟩ full20).length = 19 := by
            have h1 := len_rem full20 full_up key
            rw [hfh, full_len] at h1
            simp [doneE] at h1 ⊢
            omega
          have HRD := hide (redo_yes 3 4 ao 20 c full20 ⟨2, 1, 1, 0, 0, key, true, false, 0, 0⟩ Y4 HR.out full_up full_len (by rfl) (by omega) hok)
          unfold R.val pageV at HRD
          simp only at HRD
          go_wp2_with fail
          refine HRD.out.mono ?_
          rintro e x4 ⟨a3, m3, c3, rfl, hm3, hown3, hb⟩
          clear HRD
          have hmn : m3 = 19 := hm3.symm.trans hdl
          subst hmn
          clear hm3 hown3 k0 k1 hok hdl
          replace HB := hide (over HB.out hb HB.out.size)
          replace HP := hide (HP.out.step hb)
          replace HR := hide (HR.out.step hb)
          replace HRB := hide (HRB.out.step hb)
          clear hb
          clear r0 r1 r2 r3 r4 r5 r6 r7 r8 r9
          have hbx := below_box x4 (pageBlock 4 a3 19 c3)
          have HQ := hide (pblk_new x4 4 a3 19 c3)
          replace HB := hide (over HB.out hbx HB.out.size)
          replace HP := hide (HP.out.step hbx)
          replace HR := hide (HR.out.step hbx)
          replace HRB := hide (HRB.out.step hbx)
          unfold pageBlock at HB HP HR HRB HQ
          clear hbx
          go_upto_region 15 with fail
          obtain ⟨Q, hQ⟩ : ∃ Q, Q = x4.heap.size := ⟨_, rfl⟩
          rw [← hQ] at HQ ⊢
          obtain ⟨Y5, hY5⟩ : ∃ Y5, Y5 = x4.alloc (.cells #[.int .i64 4, .slice a3 19 c3] 26) := ⟨_, rfl⟩
          rw [← hY5] at HB HP HR HRB HQ ⊢
          clear hY5
          clear hQ
          have q0 := HQ.out.c0
          have q1 := HQ.out.c1
          go_wp2_with fail
          go_ret
          exact ⟨rfl, HB.out⟩
      have h40' : decide (key < 40) = false := by simp; omega
      rw [h40'] at hfh
      clear hev h40
      cases a1
      case true =>
        have HR0 := hide HR.out
        have HP0 := hide HP.out
        have HB0 := hide HB.out
        have hbk := heap_alloc_new x2 (.cells #[.int .i64 2, .int .i64 1, .int .i64 1, .int .i64 0, .int .i64 0, .int .i64 key, .bool false, .bool true, .int .i64 0, .int .i64 0] 35)
        have HLR : Hid (x2.heap.size ≤ x2.heap.size) := Nat.le_refl _
        have hbx := below_box x2 (.cells #[.int .i64 2, .int .i64 1, .int .i64 1, .int .i64 0, .int .i64 0, .int .i64 key, .bool false, .bool true, .int .i64 0, .int .i64 0] 35)
        have HRB : Hid (Cells10 (x2.alloc (.cells #[.int .i64 2, .int .i64 1, .int .i64 1, .int .i64 0, .int .i64 0, .int .i64 key, .bool false, .bool true, .int .i64 0, .int .i64 0] 35)) x2.heap.size ⟨2, 1, 1, 0, 0, key, false, true, 0, 0⟩) := cells10_new x2 ⟨2, 1, 1, 0, 0, key, false, true, 0, 0⟩
        replace HB := hide (over HB.out hbx HB.out.size)
        replace HP := hide (HP.out.step hbx)
        replace HR := hide (HR.out.step hbx)
        clear hbx
        go_upto_region 12 with fail
        obtain ⟨RB, hRB⟩ : ∃ RB, RB = x2.heap.size := ⟨_, rfl⟩
        rw [← hRB] at HRB ⊢
        replace HLR : Hid (x2.heap.size ≤ RB) := by show x2.heap.size ≤ RB; omega
        have HBK := hide hbk
        rw [← hRB] at HBK
        have HBX := hide (below_box x2 (.cells #[.int .i64 2, .int .i64 1, .int .i64 1, .int .i64 0, .int .i64 0, .int .i64 key, .bool false, .bool true, .int .i64 0, .int .i64 0] 35))
        clear hbk
        obtain ⟨Y6, hY6⟩ : ∃ Y6, Y6 = x2.alloc (.cells #[.int .i64 2, .int .i64 1, .int .i64 1, .int .i64 0, .int .i64 0, .int .i64 key, .bool false, .bool true, .int .i64 0, .int .i64 0] 35) := ⟨_, rfl⟩
        rw [← hY6] at HB HP HR HRB HBK HBX ⊢
        clear hY6
        clear hRB
        have r9 := HRB.out.c9
        have hfz : Y6.frozen? ⟨RB, 9, none⟩ = false := by simp [World.frozen?, HBK.out]
        simp only at r9
        go_upto_region 14 with fail
        clear r9 hfz
        obtain ⟨Z, hZ⟩ : ∃ Z, Z = Y6.setCell ⟨RB, 9, none⟩ (.int .i64 a2) := ⟨_, rfl⟩
        have hbZ : Below x2.heap.size x2 Z := by rw [hZ]; exact HBX.out.setCell (p := ⟨RB, 9, none⟩) HLR.out _
        have HRZ : Hid (Cells10 Z RB ⟨2, 1, 1, 0, 0, key, false, true, 0, a2⟩) := by show Cells10 Z RB _; rw [hZ]; exact cells10_of (set_block HBK.out 9 _)
        replace HP := hide (HP0.out.step hbZ)
        replace HR := hide (HR0.out.step hbZ)
        replace HB := hide (over HB0.out hbZ HB0.out.size)
        rw [← hZ]
        clear hZ hbZ HRB HBK HBX
        have k0 := HP.out.c0
        have k1 := HP.out.c1
        obtain ⟨r0, r1, r2, r3, r4, r5, r6, r7, r8, r9, rl⟩ := HRZ.out
        simp only at r0 r1 r2 r3 r4 r5 r6 r7 r8 r9
        clear rl
        have hok : okD ⟨2, 1, 1, 0, 0, key, false, true, 0, a2⟩ full20 = false := by simp [okD, canPut, hfh, full_len]
        have HRD := hide (redo_no 3 4 ao 20 c full20 ⟨2, 1, 1, 0, 0, key, false, true, 0, a2⟩ Z (HEP.out _ HB.out) HR.out full_up full_len (by rfl) (by omega) hok)
        unfold R.val pageV at HRD
        simp only at HRD
        go_wp2_with fail
        refine HRD.out.mono ?_
        rintro e x4 ⟨rfl, hb⟩
        clear HRD
        clear k0 k1 hok
        replace HB := hide (over HB.out hb HB.out.size)
        replace HP := hide (HP.out.step hb)
        replace HR := hide (HR.out.step hb)
        replace HRZ := hide (HRZ.out.step hb)
        clear hb
        clear r0 r1 r2 r3 r4 r5 r6 r7 r8 r9
        have hbx := below_box x4 (pageBlock 0 none 0 0)
        have HQ := hide (pblk_new x4 0 none 0 0)
        replace HB := hide (over HB.out hbx HB.out.size)
        replace HP := hide (HP.out.step hbx)
        replace HR := hide (HR.out.step hbx)
        replace HRZ := hide (HRZ.out.step hbx)
        unfold pageBlock at HB HP HR HRZ HQ
        clear hbx
        go_upto_region 15 with fail
        obtain ⟨Q, hQ⟩ : ∃ Q, Q = x4.heap.size := ⟨_, rfl⟩
        rw [← hQ] at HQ ⊢
        obtain ⟨Y7, hY7⟩ : ∃ Y7, Y7 = x4.alloc (.cells #[.int .i64 0, .slice none 0 0] 26) := ⟨_, rfl⟩
        rw [← hY7] at HB HP HR HRZ HQ ⊢
        clear hY7
        clear hQ
        have HI := hide (fun w' (h : Below w.heap.size w w') => is_err w' a 6 (by omega) 107 (by omega) (HW.out.step h))
        unfold errV at HI
        have q1 := HQ.out.c1
        go_upto_region 16 with fail
        clear q1
        go_wp2_with fail
        refine (HI.out _ HB.out).mono ?_
        rintro e x5 ⟨rfl, hb⟩
        have q1 := (HQ.out.step hb).c1
        have HBF := hide (over HB.out hb HB.out.size)
        clear hb HI
        go_wp2_with fail
        go_ret
        exact ⟨rfl, HBF.out⟩
      case false =>
        have HR0 := hide HR.out
        have HP0 := hide HP.out
        have HB0 := hide HB.out
        have hbk := heap_alloc_new x2 (.cells #[.int .i64 2, .int .i64 1, .int .i64 1, .int .i64 0, .int .i64 0, .int .i64 key, .bool false, .bool false, .int .i64 0, .int .i64 0] 35)
        have HLR : Hid (x2.heap.size ≤ x2.heap.size) := Nat.le_refl _
        have hbx := below_box x2 (.cells #[.int .i64 2, .int .i64 1, .int .i64 1, .int .i64 0, .int .i64 0, .int .i64 key, .bool false, .bool false, .int .i64 0, .int .i64 0] 35)
        have HRB : Hid (Cells10 (x2.alloc (.cells #[.int .i64 2, .int .i64 1, .int .i64 1, .int .i64 0, .int .i64 0, .int .i64 key, .bool false, .bool false, .int .i64 0, .int .i64 0] 35)) x2.heap.size ⟨2, 1, 1, 0, 0, key, false, false, 0, 0⟩) := cells10_new x2 ⟨2, 1, 1, 0, 0, key, false, false, 0, 0⟩
        replace HB := hide (over HB.out hbx HB.out.size)
        replace HP := hide (HP.out.step hbx)
        replace HR := hide (HR.out.step hbx)
        clear hbx
        go_upto_region 12 with fail
        obtain ⟨RB, hRB⟩ : ∃ RB, RB = x2.heap.size := ⟨_, rfl⟩
        rw [← hRB] at HRB ⊢
        replace HLR : Hid (x2.heap.size ≤ RB) := by show x2.heap.size ≤ RB; omega
        have HBK := hide hbk
        rw [← hRB] at HBK
        have HBX := hide (below_box x2 (.cells #[.int .i64 2, .int .i64 1, .int .i64 1, .int .i64 0, .int .i64 0, .int .i64 key, .bool false, .bool false, .int .i64 0, .int .i64 0] 35))
        clear hbk
        obtain ⟨Y8, hY8⟩ : ∃ Y8, Y8 = x2.alloc (.cells #[.int .i64 2, .int .i64 1, .int .i64 1, .int .i64 0, .int .i64 0, .int .i64 key, .bool false, .bool false, .int .i64 0, .int .i64 0] 35) := ⟨_, rfl⟩
        rw [← hY8] at HB HP HR HRB HBK HBX ⊢
        clear hY8
        clear hRB
        have k0 := HP.out.c0
        have k1 := HP.out.c1
        obtain ⟨r0, r1, r2, r3, r4, r5, r6, r7, r8, r9, rl⟩ := HRB.out
        simp only at r0 r1 r2 r3 r4 r5 r6 r7 r8 r9
        clear rl
        have hok : okD ⟨2, 1, 1, 0, 0, key, false, false, 0, 0⟩ full20 = true := by simp [okD, canPut, hfh]
        have hdl : (doneE ⟨2, 1, 1, 0, 0, key, false, false, 0, 0⟩ full20).length = 20 := by
          have h1 := len_rem full20 full_up key
          rw [hfh, full_len] at h1
          simp [doneE] at h1 ⊢
          omega
        have HRD := hide (redo_yes 3 4 ao 20 c full20 ⟨2, 1, 1, 0, 0, key, false, false, 0, 0⟩ Y8 HR.out full_up full_len (by rfl) (by omega) hok)
        unfold R.val pageV at HRD
        simp only at HRD
        go_wp2_with fail
        refine HRD.out.mono ?_
        rintro e x4 ⟨a3, m3, c3, rfl, hm3, hown3, hb⟩
        clear HRD
        have hmn : m3 = 20 := hm3.symm.trans hdl
        subst hmn
        clear hm3 hown3 k0 k1 hok hdl
        replace HB := hide (over HB.out hb HB.out.size)
        replace HP := hide (HP.out.step hb)
        replace HR := hide (HR.out.step hb)
        replace HRB := hide (HRB.out.step hb)
        clear hb
        clear r0 r1 r2 r3 r4 r5 r6 r7 r8 r9
        have hbx := below_box x4 (pageBlock 4 a3 20 c3)
        have HQ := hide (pblk_new x4 4 a3 20 c3)
        replace HB := hide (over HB.out hbx HB.out.size)
        replace HP := hide (HP.out.step hbx)
        replace HR := hide (HR.out.step hbx)
        replace HRB := hide (HRB.out.step hbx)
        unfold pageBlock at HB HP HR HRB HQ
        clear hbx
        go_upto_region 15 with fail
        obtain ⟨Q, hQ⟩ : ∃ Q, Q = x4.heap.size := ⟨_, rfl⟩
        rw [← hQ] at HQ ⊢
        obtain ⟨Y9, hY9⟩ : ∃ Y9, Y9 = x4.alloc (.cells #[.int .i64 4, .slice a3 20 c3] 26) := ⟨_, rfl⟩
        rw [← hY9] at HB HP HR HRB HQ ⊢
        clear hY9
        clear hQ
        have q0 := HQ.out.c0
        have q1 := HQ.out.c1
        go_wp2_with fail
        go_ret
        exact ⟨rfl, HB.out⟩
    have hev' : (key % 2 == 0) = false := by simpa using hev
    rw [decide_eq_false hev, Bool.false_and] at hfh
    clear hev
    cases a1
    case true =>
      have HR0 := hide HR.out
      have HP0 := hide HP.out
      have HB0 := hide HB.out
      have hbk := heap_alloc_new x2 (.cells #[.int .i64 2, .int .i64 1, .int .i64 1, .int .i64 0, .int .i64 0, .int .i64 key, .bool false, .bool true, .int .i64 0, .int .i64 0] 35)
      have HLR : Hid (x2.heap.size ≤ x2.heap.size) := Nat.le_refl _
      have hbx := below_box x2 (.cells #[.int .i64 2, .int .i64 1, .int .i64 1, .int .i64 0, .int .i64 0, .int .i64 key, .bool false, .bool true, .int .i64 0, .int .i64 0] 35)
      have HRB : Hid (Cells10 (x2.alloc (.cells #[.int .i64 2, .int .i64 1, .int .i64 1, .int .i64 0, .int .i64 0, .int .i64 key, .bool false, .bool true, .int .i64 0, .int .i64 0] 35)) x2.heap.size ⟨2, 1, 1, 0, 0, key, false, true, 0, 0⟩) := cells10_new x2 ⟨2, 1, 1, 0, 0, key, false, true, 0, 0⟩
      replace HB := hide (over HB.out hbx HB.out.size)
      replace HP := hide (HP.out.step hbx)
      replace HR := hide (HR.out.step hbx)
      clear hbx
      go_upto_region 12 with fail
      obtain ⟨RB, hRB⟩ : ∃ RB, RB = x2.heap.size := ⟨_, rfl⟩
      rw [← hRB] at HRB ⊢
      replace HLR : Hid (x2.heap.size ≤ RB) := by show x2.heap.size ≤ RB; omega
      have HBK := hide hbk
      rw [← hRB] at HBK
      have HBX := hide (below_box x2 (.cells #[.int .i64 2, .int .i64 1, .int .i64 1, .int .i64 0, .int .i64 0, .int .i64 key, .bool false, .bool true, .int .i64 0, .int .i64 0] 35))
      clear hbk
      obtain ⟨Y10, hY10⟩ : ∃ Y10, Y10 = x2.alloc (.cells #[.int .i64 2, .int .i64 1, .int .i64 1, .int .i64 0, .int .i64 0, .int .i64 key, .bool false, .bool true, .int .i64 0, .int .i64 0] 35) := ⟨_, rfl⟩
      rw [← hY10] at HB HP HR HRB HBK HBX ⊢
      clear hY10
      clear hRB
      have r9 := HRB.out.c9
      have hfz : Y10.frozen? ⟨RB, 9, none⟩ = false := by simp [World.frozen?, HBK.out]
      simp only at r9
      go_upto_region 14 with fail
      clear r9 hfz
      obtain ⟨Z, hZ⟩ : ∃ Z, Z = Y10.setCell ⟨RB, 9, none⟩ (.int .i64 a2) := ⟨_, rfl⟩
      have hbZ : Below x2.heap.size x2 Z := by rw [hZ]; exact HBX.out.setCell (p := ⟨RB, 9, none⟩) HLR.out _
      have HRZ : Hid (Cells10 Z RB ⟨2, 1, 1, 0, 0, key, false, true, 0, a2⟩) := by show Cells10 Z RB _; rw [hZ]; exact cells10_of (set_block HBK.out 9 _)
      replace HP := hide (HP0.out.step hbZ)
      replace HR := hide (HR0.out.step hbZ)
      replace HB := hide (over HB0.out hbZ HB0.out.size)
      rw [← hZ]
      clear hZ hbZ HRB HBK HBX
      have k0 := HP.out.c0
      have k1 := HP.out.c1
      obtain ⟨r0, r1, r2, r3, r4, r5, r6, r7, r8, r9, rl⟩ := HRZ.out
      simp only at r0 r1 r2 r3 r4 r5 r6 r7 r8 r9
      clear rl
      have hok : okD ⟨2, 1, 1, 0, 0, key, false, true, 0, a2⟩ full20 = false := by simp [okD, canPut, hfh, full_len]
      have HRD := hide (redo_no 3 4 ao 20 c full20 ⟨2, 1, 1, 0, 0, key, false, true, 0, a2⟩ Z (HEP.out _ HB.out) HR.out full_up full_len (by rfl) (by omega) hok)
      unfold R.val pageV at HRD
      simp only at HRD
      go_wp2_with fail
      refine HRD.out.mono ?_
      rintro e x4 ⟨rfl, hb⟩
      clear HRD
      clear k0 k1 hok
      replace HB := hide (over HB.out hb HB.out.size)
      replace HP := hide (HP.out.step hb)
      replace HR := hide (HR.out.step hb)
      replace HRZ := hide (HRZ.out.step hb)
      clear hb
      clear r0 r1 r2 r3 r4 r5 r6 r7 r8 r9
      have hbx := below_box x4 (pageBlock 0 none 0 0)
      have HQ := hide (pblk_new x4 0 none 0 0)
      replace HB := hide (over HB.out hbx HB.out.size)
      replace HP := hide (HP.out.step hbx)
      replace HR := hide (HR.out.step hbx)
      replace HRZ := hide (HRZ.out.step hbx)
      unfold pageBlock at HB HP HR HRZ HQ
      clear hbx
      go_upto_region 15 with fail
      obtain ⟨Q, hQ⟩ : ∃ Q, Q = x4.heap.size := ⟨_, rfl⟩
      rw [← hQ] at HQ ⊢
      obtain ⟨Y11, hY11⟩ : ∃ Y11, Y11 = x4.alloc (.cells #[.int .i64 0, .slice none 0 0] 26) := ⟨_, rfl⟩
      rw [← hY11] at HB HP HR HRZ HQ ⊢
      clear hY11
      clear hQ
      have HI := hide (fun w' (h : Below w.heap.size w w') => is_err w' a 6 (by omega) 107 (by omega) (HW.out.step h))
      unfold errV at HI
      have q1 := HQ.out.c1
      go_upto_region 16 with fail
      clear q1
      go_wp2_with fail
      refine (HI.out _ HB.out).mono ?_
      rintro e x5 ⟨rfl, hb⟩
      have q1 := (HQ.out.step hb).c1
      have HBF := hide (over HB.out hb HB.out.size)
      clear hb HI
      go_wp2_with fail
      go_ret
      exact ⟨rfl, HBF.out⟩
    case false =>
      have HR0 := hide HR.out
      have HP0 := hide HP.out
      have HB0 := hide HB.out
      have hbk := heap_alloc_new x2 (.cells #[.int .i64 2, .int .i64 1, .int .i64 1, .int .i64 0, .int .i64 0, .int .i64 key, .bool false, .bool false, .int .i64 0, .int .i64 0] 35)
      have HLR : Hid (x2.heap.size ≤ x2.heap.size) := Nat.le_refl _
      have hbx := below_box x2 (.cells #[.int .i64 2, .int .i64 1, .int .i64 1, .int .i64 0, .int .i64 0, .int .i64 key, .bool false, .bool false, .int .i64 0, .int .i64 0] 35)
      have HRB : Hid (Cells10 (x2.alloc (.cells #[.int .i64 2, .int .i64 1, .int .i64 1, .int .i64 0, .int .i64 0, .int .i64 key, .bool false, .bool false, .int .i64 0, .int .i64 0] 35)) x2.heap.size ⟨2, 1, 1, 0, 0, key, false, false, 0, 0⟩) := cells10_new x2 ⟨2, 1, 1, 0, 0, key, false, false, 0, 0⟩
      replace HB := hide (over HB.out hbx HB.out.size)
      replace HP := hide (HP.out.step hbx)
      replace HR := hide (HR.out.step hbx)
      clear hbx
      go_upto_region 12 with fail
      obtain ⟨RB, hRB⟩ : ∃ RB, RB = x2.heap.size := ⟨_, rfl⟩
      rw [← hRB] at HRB ⊢
      replace HLR : Hid (x2.heap.size ≤ RB) := by show x2.heap.size ≤ RB; omega
      have HBK := hide hbk
      rw [← hRB] at HBK
      have HBX := hide (below_box x2 (.cells #[.int .i64 2, .int .i64 1, .int .i64 1, .int .i64 0, .int .i64 0, .int .i64 key, .bool false, .bool false, .int .i64 0, .int .i64 0] 35))
      clear hbk
      obtain ⟨Y12, hY12⟩ : ∃ Y12, Y12 = x2.alloc (.cells #[.int .i64 2, .int .i64 1, .int .i64 1, .int .i64 0, .int .i64 0, .int .i64 key, .bool false, .bool false, .int .i64 0, .int .i64 0] 35) := ⟨_, rfl⟩
      rw [← hY12] at HB HP HR HRB HBK HBX ⊢
      clear hY12
      clear hRB
      have k0 := HP.out.c0
      have k1 := HP.out.c1
      obtain ⟨r0, r1, r2, r3, r4, r5, r6, r7, r8, r9, rl⟩ := HRB.out
      simp only at r0 r1 r2 r3 r4 r5 r6 r7 r8 r9
      clear rl
      have hok : okD ⟨2, 1, 1, 0, 0, key, false, false, 0, 0⟩ full20 = true := by simp [okD, canPut, hfh]
      have hdl : (doneE ⟨2, 1, 1, 0, 0, key, false, false, 0, 0⟩ full20).length = 20 := by
        have h1 := len_rem full20 full_up key
        rw [hfh, full_len] at h1
        simp [doneE] at h1 ⊢
        omega
      have HRD := hide (redo_yes 3 4 ao 20 c full20 ⟨2, 1, 1, 0, 0, key, false, false, 0, 0⟩ Y12 HR.out full_up full_len (by rfl) (by omega) hok)
      unfold R.val pageV at HRD
      simp only at HRD
      go_wp2_with fail
      refine HRD.out.mono ?_
      rintro e x4 ⟨a3, m3, c3, rfl, hm3, hown3, hb⟩
      clear HRD
      have hmn : m3 = 20 := hm3.symm.trans hdl
      subst hmn
      clear hm3 hown3 k0 k1 hok hdl
      replace HB := hide (over HB.out hb HB.out.size)
      replace HP := hide (HP.out.step hb)
      replace HR := hide (HR.out.step hb)
      replace HRB := hide (HRB.out.step hb)
      clear hb
      clear r0 r1 r2 r3 r4 r5 r6 r7 r8 r9
      have hbx := below_box x4 (pageBlock 4 a3 20 c3)
      have HQ := hide (pblk_new x4 4 a3 20 c3)
      replace HB := hide (over HB.out hbx HB.out.size)
      replace HP := hide (HP.out.step hbx)
      replace HR := hide (HR.out.step hbx)
      replace HRB := hide (HRB.out.step hbx)
      unfold pageBlock at HB HP HR HRB HQ
      clear hbx
      go_upto_region 15 with fail
      obtain ⟨Q, hQ⟩ : ∃ Q, Q = x4.heap.size := ⟨_, rfl⟩
      rw [← hQ] at HQ ⊢
      obtain ⟨Y13, hY13⟩ : ∃ Y13, Y13 = x4.alloc (.cells #[.int .i64 4, .slice a3 20 c3] 26) := ⟨_, rfl⟩
      rw [← hY13] at HB HP HR HRB HQ ⊢
      clear hY13
      clear hQ
      have q0 := HQ.out.c0
      have q1 := HQ.out.c1
      go_wp2_with fail
      go_ret
      exact ⟨rfl, HB.out⟩
end Go.Proofs.YtefgmlmhdjckaabDoor.changeFull
