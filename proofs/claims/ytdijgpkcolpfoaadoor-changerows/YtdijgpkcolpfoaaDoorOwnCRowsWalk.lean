
/- What the statement ChangeRows asks comes out true, at every list of numbers and every number; nothing that was there is written. -/
import Derived.Test.YtdijgpkcolpfoaaDoorOwnCRows
namespace Go.Proofs.YtdijgpkcolpfoaaDoor.changeRows
open Go.RowKit
set_option linter.unusedVariables false

set_option maxRecDepth 100000 in
set_option maxHeartbeats 16000000 in
theorem walk (lo : Option Addr) (len cap : Nat) (zs : List Int) (a1 : Int) (w : World) (w0 : IsRow .i64 w lo len cap zs) (w1 : (Lit.int .i64 a1).wf = true) {a : Nat → Addr} (he : ErrsOf w [6] a) :
    Calls Tryd.prog 4 #[.slice lo len cap, .int .i64 a1] w fun e w' => e = .returned (.bool true) ∧ Below w.heap.size w w' := by
  have HROW := hide w0
  clear he w0 w1
  go_enter Tryd.func4, Tryd.ntmps4
  go_wp2_with fail
  refine (cfirst_any _).mono ?_
  rintro e x1 ⟨rfl, hb⟩
  have HB := hide hb
  clear hb
  by_cases hlen : len ≤ 200
  case neg =>
    have hl1 : (200 : Int) < (len : Int) := by omega
    go_wp2_with fail
    go_ret
    exact ⟨rfl, HB.out⟩
  have hl1 : decide ((200 : Int) < (len : Int)) = false := by simp; omega
  have hs := seq_new5 HROW.out (by omega) HB.out
  have HBX := hide (over HB.out (below_box x1 (seqCells lo len cap)) HB.out.size)
  have HS0 : Hid (w.heap.size ≤ x1.heap.size) := HB.out.size
  have HS := hide hs
  unfold seqCells at HBX HS
  clear hs HROW HB
  go_upto_region 7 with fail
  obtain ⟨s, hsn⟩ : ∃ s, s = x1.heap.size := ⟨_, rfl⟩
  rw [← hsn] at HS HS0 ⊢
  obtain ⟨X1, hX1⟩ : ∃ X1, X1 = x1.alloc (.cells #[.slice lo len cap, .int .i64 0] 31) := ⟨_, rfl⟩
  rw [← hX1] at HS HBX ⊢
  clear hX1 hsn
  go_wp2_with fail
  refine (next_but s lo len cap zs 0 _ _ HS.out (by omega) (by omega) (by omega)).mono ?_
  rintro e x2 ⟨n0, rfl, hn0, hS, hB⟩
  have HN0 : Hid (n0 < 40) := by show n0 < 40; omega
  have hn40 : n0 < 40 := HN0.out
  have hsX := lt_of_block HS.out.lies
  replace HBX := hide (HBX.out.trans ((hB.below (by omega)).mono HS0.out))
  replace HS := hide hS
  clear hS hB hn0 hsX
  have hbx := below_box x2 (pageBlock 0 none 0 0)
  have HP := hide (pblk_new x2 0 none 0 0)
  have HSP : Hid (s < x2.heap.size) := lt_of_block HS.out.lies
  replace HS := hide (HS.out.under hbx (lt_of_block HS.out.lies))
  replace HBX := hide (over HBX.out hbx HBX.out.size)
  unfold pageBlock at HP HS HBX
  clear hbx
  go_upto_region 10 with fail
  obtain ⟨P, hP⟩ : ∃ P, P = x2.heap.size := ⟨_, rfl⟩
  rw [← hP] at HP HSP ⊢
  obtain ⟨X3, hX3⟩ : ∃ X3, X3 = x2.alloc (.cells #[.int .i64 0, .slice none 0 0] 24) := ⟨_, rfl⟩
  rw [← hX3] at HP HS HBX ⊢
  clear hP hX3
  have HC0 : Hid (CR w X3 s P lo len cap zs 1 [] none 0 [] none 0 0 none 0 0 []) := CR.mk HS.out (ownR_nil _ _) (ownP_nil _ _) HP.out (ownE_nil _ _) rfl (fun j q hj => by simp at hj) HBX.out ⟨HS0.out, HSP.out⟩
  clear HS HBX HP HS0 HSP
  go_wp2_with fail
  go_loopw [8, 10, 11] (fun v8 v10 i wr => ∃ (k ns : Nat) (rs : List R) (rao : Option Addr) (rc : Nat) (ps : List PgD) (pao : Option Addr) (pc : Nat) (ao : Option Addr) (n c : Nat), i = .int .i64 k ∧ k ≤ n0 ∧ ns ≤ 1 + 3 * k ∧ v8 = .slice rao k rc ∧ v10 = .slice pao k pc ∧ rs.length = k ∧ ps.length = k ∧ (∀ r ∈ rs, okR r) ∧ CR w wr s P lo len cap zs ns rs rao rc ps pao pc (k : Int) ao n c (doneUp rs)) (fun _ _ i _ => n0 - (intOf i).toNat)
  case atStart => exact ⟨0, 1, [], none, 0, [], none, 0, none, 0, 0, rfl, by omega, by omega, rfl, rfl, rfl, rfl, fun r hr => by simp at hr, HC0.out⟩
  case round =>
    clear HC0
    obtain ⟨k, ns, rs, rao, rc, ps, pao, pc, ao, n, c, rfl, hk, hns, rfl, rfl, hlr, hlp, hal, hc0⟩ := hrel
    have HLR := hide hlr
    have HLP := hide hlp
    have HAL := hide hal
    have HC0 := hide hc0
    clear hlr hlp hal hc0
    by_cases hlt : k < n0
    · have hki : (k : Int) < (n0 : Int) := by omega
      go_wp2_with fail
      refine (next_but s lo len cap zs ns _ _ HC0.out.seq (by omega) (by omega) (by omega)).mono ?_
      rintro e y1 ⟨key, rfl, hkey, hS, hB⟩
      have HS1 := hide hS
      have HB1 := hide hB
      clear hS hB
      go_wp2_with fail
      refine (next_but s lo len cap zs (ns + 1) _ _ HS1.out (by omega) (by omega) (by omega)).mono ?_
      rintro e x2 ⟨k2, rfl, hk2, hS, hB⟩
      have HSS := hide hS
      have HBB := hide (HB1.out.trans hB)
      clear hS hB HS1 HB1 hk2
      by_cases hpos : 0 < k2
      · have hki2 : (0 : Int) < (k2 : Int) := by omega
        have hbk := heap_alloc_new x2 (.cells #[.int .i64 2, .int .i64 1, .int .i64 1, .int .i64 0, .int .i64 0, .int .i64 (key : Int), .bool false, .bool true, .int .i64 0, .int .i64 0] 60)
        have HB := hide (HBB.out.trans (But.of_below (below_box x2 (.cells #[.int .i64 2, .int .i64 1, .int .i64 1, .int .i64 0, .int .i64 0, .int .i64 (key : Int), .bool false, .bool true, .int .i64 0, .int .i64 0] 60))))
        have HS := hide (HSS.out.under (below_box x2 (.cells #[.int .i64 2, .int .i64 1, .int .i64 1, .int .i64 0, .int .i64 0, .int .i64 (key : Int), .bool false, .bool true, .int .i64 0, .int .i64 0] 60)) (lt_of_block HSS.out.lies))
        go_upto_region 15 with fail
        obtain ⟨RB, hB⟩ : ∃ RB, RB = x2.heap.size := ⟨_, rfl⟩
        have HRBL : Hid (wr.heap.size ≤ RB) := by have := HBB.out.size; show _ ≤ _; omega
        have HRBS : Hid (P < RB ∧ s < RB) := by have h1 := HC0.out.page.lt; have h2 := HC0.out.ord.2; have h3 := HRBL.out; exact ⟨by omega, by omega⟩
        have HGR : Hid (∀ g, (Value.slice rao rs.length rc).ownBlock = some g → g < RB) := fun g e => Nat.lt_of_lt_of_le (HC0.out.recs.1.lt g e).2 HRBL.out
        have HGP : Hid (∀ g, (Value.slice pao ps.length pc).ownBlock = some g → g < RB) := fun g e => Nat.lt_of_lt_of_le (HC0.out.pgs.1.lt g e).2 HRBL.out
        rw [← hB] at hbk ⊢
        obtain ⟨Y2, hY⟩ : ∃ Y2, Y2 = x2.alloc (.cells #[.int .i64 2, .int .i64 1, .int .i64 1, .int .i64 0, .int .i64 0, .int .i64 (key : Int), .bool false, .bool true, .int .i64 0, .int .i64 0] 60) := ⟨_, rfl⟩
        rw [← hY] at hbk HB HS ⊢
        clear hY hB HBB HSS
        have r7 : Y2.cell? ⟨RB, 7, none⟩ = some (.bool true) := (cell_row hbk 7).trans rfl
        have HBK := hide hbk
        clear hbk
        go_wp2_with fail
        refine (next_but s lo len cap zs _ _ _ HS.out (by omega) (by omega) (by omega)).mono ?_
        rintro e x3 ⟨v, rfl, hv, hS, hB⟩
        have hbk := (hB.block RB (lt_of_block HBK.out) (by have := HRBS.out.2; omega)).trans HBK.out
        replace HB := hide (HB.out.trans hB)
        replace HS := hide hS
        clear hS hB r7 HBK
        have r9 : x3.cell? ⟨RB, 9, none⟩ = some (.int .i64 0) := (cell_row hbk 9).trans rfl
        have hfz : x3.frozen? ⟨RB, 9, none⟩ = false := by simp [World.frozen?, hbk]
        have HBK := hide hbk
        clear hbk
        go_upto_region 17 with fail
        clear r9 hfz
        obtain ⟨Z, hZ⟩ : ∃ Z, Z = x3.setCell ⟨RB, 9, none⟩ (.int .i64 (v : Int)) := ⟨_, rfl⟩
        have HRB : Hid (Cells10 Z RB (⟨2, 1, 1, 0, 0, (key : Int), false, true, 0, (v : Int)⟩ : R)) := by show Cells10 Z RB _; rw [hZ]; exact cells10_of (set_block HBK.out 9 _)
        have HC : Hid (CR w Z s P lo len cap zs (ns + 1 + 1 + 1) rs rao rc ps pao pc (k : Int) ao n c (doneUp rs)) := by
          show CR w Z s P lo len cap zs (ns + 1 + 1 + 1) rs rao rc ps pao pc (k : Int) ao n c (doneUp rs)
          rw [hZ]
          exact HC0.out.next (HB.out.put HRBL.out 9 _) (HS.out.set HRBS.out.2 9 _)
        rw [← hZ]
        clear hZ HBK HB HS
        have HNS : Hid (ns + 1 + 1 + 1 ≤ 1 + 3 * (k + 1)) := by show _ ≤ _; omega
        have HKR : Hid (okR (⟨2, 1, 1, 0, 0, (key : Int), false, true, 0, (v : Int)⟩ : R)) := ⟨rfl, by show (0 : Int) ≤ (key : Int); omega, by show (key : Int) < 19; omega⟩
        have hsz : P + 1 ≤ Z.heap.size := HC.out.page.lt
        obtain ⟨r0, r1, r2, r3, r4, r5, r6, r7, r8, r9, rl⟩ := HRB.out
        simp only at r0 r1 r2 r3 r4 r5 r6 r7 r8 r9
        clear rl
        go_upto_region 18 with (first | (refine build1 (⟨2, 1, 1, 0, 0, (key : Int), false, true, 0, (v : Int)⟩ : R) rfl ?_) | (at_builtin; refine appendR (P + 1) rao k rc rs (⟨2, 1, 1, 0, 0, (key : Int), false, true, 0, (v : Int)⟩ : R) rfl HLR.out HC.out.recs (by omega) (by first | rfl | (simp; rfl)) hsz ?_; intro rao2 rc2 A1 hown1 hgr1; have HO1 := hide hown1; have HG1 := hide hgr1; clear hown1 hgr1))
        clear r0 r1 r2 r3 r4 r5 r6 r7 r8 r9 hsz
        have hbz := below_box Z (recCells (⟨2, 1, 1, 0, 0, (key : Int), false, true, 0, (v : Int)⟩ : R))
        have HC1 := hide ((HC.out.step hbz).addR HO1.out HG1.out (by rw [HLP.out, HLR.out]; omega))
        have HRB1 := hide ((HRB.out.step hbz).grown HG1.out (fun e => by have := HGR.out RB e.symm; omega))
        clear hbz HC HRB HO1 HG1
        have HLR1 : Hid ((rs ++ [(⟨2, 1, 1, 0, 0, (key : Int), false, true, 0, (v : Int)⟩ : R)]).length = k + 1) := by show _ = _; rw [List.length_append, HLR.out]; rfl
        have HAL1 : Hid (∀ r ∈ rs ++ [(⟨2, 1, 1, 0, 0, (key : Int), false, true, 0, (v : Int)⟩ : R)], okR r) := fun r hr => by
          rcases List.mem_append.1 hr with h1 | h1
          · exact HAL.out r h1
          · rw [List.mem_singleton.1 h1]; exact HKR.out
        have HES1 : Hid (doneUp (rs ++ [(⟨2, 1, 1, 0, 0, (key : Int), false, true, 0, (v : Int)⟩ : R)]) = doneE (⟨2, 1, 1, 0, 0, (key : Int), false, true, 0, (v : Int)⟩ : R) (doneUp rs)) := doneUp_snoc _ _
        have HEA1 : Hid (esAt (rs ++ [(⟨2, 1, 1, 0, 0, (key : Int), false, true, 0, (v : Int)⟩ : R)]) k = doneUp rs) := by
          show _ = _
          rw [esAt_snoc _ _ (by rw [HLR.out]; omega)]
          exact esAt_all HLR.out
        obtain ⟨rs1, hrs1⟩ : ∃ rs1, rs1 = rs ++ [(⟨2, 1, 1, 0, 0, (key : Int), false, true, 0, (v : Int)⟩ : R)] := ⟨_, rfl⟩
        rw [← hrs1] at HC1 HLR1 HAL1 HES1 HEA1
        clear hrs1
        have k0 := HC1.out.page.c0
        have k1 := HC1.out.page.c1
        have hsz : P + 1 ≤ A1.heap.size := HC1.out.page.lt
        go_upto_region 19 with (first | (refine buildP (k : Int) ao n c rfl ?_) | (at_builtin; refine appendP (P + 1) pao k pc ps ⟨(k : Int), ao, n, c⟩ rfl HLP.out HC1.out.pgs (by omega) (by first | rfl | (simp; rfl)) hsz ?_; intro pao2 pc2 A2 hown2 hgr2; have HO2 := hide hown2; have HG2 := hide hgr2; clear hown2 hgr2))
        clear k0 k1 hsz
        have hbz := below_box A1 (pageBlock (k : Int) ao n c)
        have HC1' : Hid (CR w A1 s P lo len cap zs (ns + 1 + 1 + 1) rs1 rao2 rc2 ps pao pc (k : Int) ao n c (esAt rs1 ps.length)) := by
          show CR w A1 s P lo len cap zs (ns + 1 + 1 + 1) rs1 rao2 rc2 ps pao pc (k : Int) ao n c (esAt rs1 ps.length)
          rw [HLP.out, HEA1.out]; exact HC1.out
        have HC2 := hide ((HC1'.out.step hbz).addP (by rw [HLP.out]) HO2.out HG2.out)
        have HRB2 := hide ((HRB1.out.step hbz).grown HG2.out (fun e => by have := HGP.out RB e.symm; omega))
        clear hbz HC1 HC1' HRB1 HO2 HG2
        have HLP1 : Hid ((ps ++ [(⟨(k : Int), ao, n, c⟩ : PgD)]).length = k + 1) := by show _ = _; rw [List.length_append, HLP.out]; rfl
        obtain ⟨ps1, hps1⟩ : ∃ ps1, ps1 = ps ++ [(⟨(k : Int), ao, n, c⟩ : PgD)] := ⟨_, rfl⟩
        rw [← hps1, HLP.out, HEA1.out] at HC2
        rw [← hps1] at HLP1
        clear hps1
        have hup := doneUp_ok HAL.out
        have k0 := HC2.out.page.c0
        have k1 := HC2.out.page.c1
        obtain ⟨r0, r1, r2, r3, r4, r5, r6, r7, r8, r9, rl⟩ := HRB2.out
        simp only at r0 r1 r2 r3 r4 r5 r6 r7 r8 r9
        clear rl
        have HRD := hide (redo_yes (k : Int) ((k : Int) + 1) ao n c (doneUp rs) (⟨2, 1, 1, 0, 0, (key : Int), false, true, 0, (v : Int)⟩ : R) A2 HC2.out.ent.row hup.1 HC2.out.many (by rfl) (by omega) (okD_few (⟨2, 1, 1, 0, 0, (key : Int), false, true, 0, (v : Int)⟩ : R) (by have := hup.2.2; omega)))
        unfold R.val pageV at HRD
        simp only at HRD
        rw [← HES1.out] at HRD
        clear hup
        go_wp2_with fail
        refine HRD.out.mono ?_
        rintro e x5 ⟨a4, m4, c4, rfl, hm4, hown4, hb⟩
        clear HRD k0 k1
        clear r0 r1 r2 r3 r4 r5 r6 r7 r8 r9
        have HO5 := hide (hown4.mono (show P + 1 ≤ A2.heap.size from HC2.out.page.lt))
        have HM4 := hide hm4
        have HC5 := hide (HC2.out.step hb)
        clear hown4 hm4 hb HC2 HRB2
        have hbz := below_box x5 (pageBlock ((k : Int) + 1) a4 m4 c4)
        have HQ := hide (pblk_new x5 ((k : Int) + 1) a4 m4 c4)
        have HC6 := hide (HC5.out.step hbz)
        have HO6 := hide (HO5.out.step hbz)
        unfold pageBlock at HQ HC6 HO6
        clear hbz HC5 HO5
        go_upto_region 20 with fail
        obtain ⟨Q, hQ⟩ : ∃ Q, Q = x5.heap.size := ⟨_, rfl⟩
        rw [← hQ] at HQ ⊢
        obtain ⟨Y6, hY6⟩ : ∃ Y6, Y6 = x5.alloc (.cells #[.int .i64 ((k : Int) + 1), .slice a4 m4 c4] 24) := ⟨_, rfl⟩
        rw [← hY6] at HQ HC6 HO6 ⊢
        clear hQ hY6
        have k0 := HC6.out.page.c0
        have k1 := HC6.out.page.c1
        have kf := HC6.out.page.fz
        have f0 := kf 0
        have f1 := kf 1
        clear kf
        have q0 := HQ.out.c0
        have q1 := HQ.out.c1
        go_wp2_with fail
        go_roundw
        case rel => exact ⟨k + 1, (ns + 1 + 1 + 1), rs1, rao2, rc2, ps1, pao2, pc2, a4, m4, c4, by go_num, by omega, HNS.out, rfl, rfl, HLR1.out, HLP1.out, HAL1.out, by have := HC6.out.setP ((k : Int) + 1) a4 m4 c4 HO6.out HM4.out; rw [show ((k + 1 : Nat) : Int) = (k : Int) + 1 by omega]; exact this⟩
        case measure => simp [intOf]; omega
      · have hki2 : ¬ (0 : Int) < (k2 : Int) := by omega
        have hki3 : decide ((0 : Int) < (k2 : Int)) = false := by simp; omega
        have hk20 : k2 = 0 := by omega
        have hbk := heap_alloc_new x2 (.cells #[.int .i64 2, .int .i64 1, .int .i64 1, .int .i64 0, .int .i64 0, .int .i64 (key : Int), .bool false, .bool false, .int .i64 0, .int .i64 0] 60)
        have HB := hide (HBB.out.trans (But.of_below (below_box x2 (.cells #[.int .i64 2, .int .i64 1, .int .i64 1, .int .i64 0, .int .i64 0, .int .i64 (key : Int), .bool false, .bool false, .int .i64 0, .int .i64 0] 60))))
        have HS := hide (HSS.out.under (below_box x2 (.cells #[.int .i64 2, .int .i64 1, .int .i64 1, .int .i64 0, .int .i64 0, .int .i64 (key : Int), .bool false, .bool false, .int .i64 0, .int .i64 0] 60)) (lt_of_block HSS.out.lies))
        clear hk20
        go_upto_region 15 with fail
        obtain ⟨RB, hB⟩ : ∃ RB, RB = x2.heap.size := ⟨_, rfl⟩
        have HRBL : Hid (wr.heap.size ≤ RB) := by have := HBB.out.size; show _ ≤ _; omega
        have HRBS : Hid (P < RB ∧ s < RB) := by have h1 := HC0.out.page.lt; have h2 := HC0.out.ord.2; have h3 := HRBL.out; exact ⟨by omega, by omega⟩
        have HGR : Hid (∀ g, (Value.slice rao rs.length rc).ownBlock = some g → g < RB) := fun g e => Nat.lt_of_lt_of_le (HC0.out.recs.1.lt g e).2 HRBL.out
        have HGP : Hid (∀ g, (Value.slice pao ps.length pc).ownBlock = some g → g < RB) := fun g e => Nat.lt_of_lt_of_le (HC0.out.pgs.1.lt g e).2 HRBL.out
        rw [← hB] at hbk ⊢
        obtain ⟨Z, hY⟩ : ∃ Z, Z = x2.alloc (.cells #[.int .i64 2, .int .i64 1, .int .i64 1, .int .i64 0, .int .i64 0, .int .i64 (key : Int), .bool false, .bool false, .int .i64 0, .int .i64 0] 60) := ⟨_, rfl⟩
        rw [← hY] at hbk HB HS ⊢
        clear hY hB HBB HSS
        have r7 : Z.cell? ⟨RB, 7, none⟩ = some (.bool false) := (cell_row hbk 7).trans rfl
        have HRB : Hid (Cells10 Z RB (⟨2, 1, 1, 0, 0, (key : Int), false, false, 0, 0⟩ : R)) := cells10_of hbk
        have HC : Hid (CR w Z s P lo len cap zs (ns + 1 + 1) rs rao rc ps pao pc (k : Int) ao n c (doneUp rs)) := HC0.out.next HB.out HS.out
        clear hbk HB HS
        go_upto_region 17 with fail
        clear r7
        have HNS : Hid (ns + 1 + 1 ≤ 1 + 3 * (k + 1)) := by show _ ≤ _; omega
        have HKR : Hid (okR (⟨2, 1, 1, 0, 0, (key : Int), false, false, 0, 0⟩ : R)) := ⟨rfl, by show (0 : Int) ≤ (key : Int); omega, by show (key : Int) < 19; omega⟩
        have hsz : P + 1 ≤ Z.heap.size := HC.out.page.lt
        obtain ⟨r0, r1, r2, r3, r4, r5, r6, r7, r8, r9, rl⟩ := HRB.out
        simp only at r0 r1 r2 r3 r4 r5 r6 r7 r8 r9
        clear rl
        go_upto_region 18 with (first | (refine build1 (⟨2, 1, 1, 0, 0, (key : Int), false, false, 0, 0⟩ : R) rfl ?_) | (at_builtin; refine appendR (P + 1) rao k rc rs (⟨2, 1, 1, 0, 0, (key : Int), false, false, 0, 0⟩ : R) rfl HLR.out HC.out.recs (by omega) (by first | rfl | (simp; rfl)) hsz ?_; intro rao2 rc2 A1 hown1 hgr1; have HO1 := hide hown1; have HG1 := hide hgr1; clear hown1 hgr1))
        clear r0 r1 r2 r3 r4 r5 r6 r7 r8 r9 hsz
        have hbz := below_box Z (recCells (⟨2, 1, 1, 0, 0, (key : Int), false, false, 0, 0⟩ : R))
        have HC1 := hide ((HC.out.step hbz).addR HO1.out HG1.out (by rw [HLP.out, HLR.out]; omega))
        have HRB1 := hide ((HRB.out.step hbz).grown HG1.out (fun e => by have := HGR.out RB e.symm; omega))
        clear hbz HC HRB HO1 HG1
        have HLR1 : Hid ((rs ++ [(⟨2, 1, 1, 0, 0, (key : Int), false, false, 0, 0⟩ : R)]).length = k + 1) := by show _ = _; rw [List.length_append, HLR.out]; rfl
        have HAL1 : Hid (∀ r ∈ rs ++ [(⟨2, 1, 1, 0, 0, (key : Int), false, false, 0, 0⟩ : R)], okR r) := fun r hr => by
          rcases List.mem_append.1 hr with h1 | h1
          · exact HAL.out r h1
          · rw [List.mem_singleton.1 h1]; exact HKR.out
        have HES1 : Hid (doneUp (rs ++ [(⟨2, 1, 1, 0, 0, (key : Int), false, false, 0, 0⟩ : R)]) = doneE (⟨2, 1, 1, 0, 0, (key : Int), false, false, 0, 0⟩ : R) (doneUp rs)) := doneUp_snoc _ _
        have HEA1 : Hid (esAt (rs ++ [(⟨2, 1, 1, 0, 0, (key : Int), false, false, 0, 0⟩ : R)]) k = doneUp rs) := by
          show _ = _
          rw [esAt_snoc _ _ (by rw [HLR.out]; omega)]
          exact esAt_all HLR.out
        obtain ⟨rs1, hrs1⟩ : ∃ rs1, rs1 = rs ++ [(⟨2, 1, 1, 0, 0, (key : Int), false, false, 0, 0⟩ : R)] := ⟨_, rfl⟩
        rw [← hrs1] at HC1 HLR1 HAL1 HES1 HEA1
        clear hrs1
        have k0 := HC1.out.page.c0
        have k1 := HC1.out.page.c1
        have hsz : P + 1 ≤ A1.heap.size := HC1.out.page.lt
        go_upto_region 19 with (first | (refine buildP (k : Int) ao n c rfl ?_) | (at_builtin; refine appendP (P + 1) pao k pc ps ⟨(k : Int), ao, n, c⟩ rfl HLP.out HC1.out.pgs (by omega) (by first | rfl | (simp; rfl)) hsz ?_; intro pao2 pc2 A2 hown2 hgr2; have HO2 := hide hown2; have HG2 := hide hgr2; clear hown2 hgr2))
        clear k0 k1 hsz
        have hbz := below_box A1 (pageBlock (k : Int) ao n c)
        have HC1' : Hid (CR w A1 s P lo len cap zs (ns + 1 + 1) rs1 rao2 rc2 ps pao pc (k : Int) ao n c (esAt rs1 ps.length)) := by
          show CR w A1 s P lo len cap zs (ns + 1 + 1) rs1 rao2 rc2 ps pao pc (k : Int) ao n c (esAt rs1 ps.length)
          rw [HLP.out, HEA1.out]; exact HC1.out
        have HC2 := hide ((HC1'.out.step hbz).addP (by rw [HLP.out]) HO2.out HG2.out)
        have HRB2 := hide ((HRB1.out.step hbz).grown HG2.out (fun e => by have := HGP.out RB e.symm; omega))
        clear hbz HC1 HC1' HRB1 HO2 HG2
        have HLP1 : Hid ((ps ++ [(⟨(k : Int), ao, n, c⟩ : PgD)]).length = k + 1) := by show _ = _; rw [List.length_append, HLP.out]; rfl
        obtain ⟨ps1, hps1⟩ : ∃ ps1, ps1 = ps ++ [(⟨(k : Int), ao, n, c⟩ : PgD)] := ⟨_, rfl⟩
        rw [← hps1, HLP.out, HEA1.out] at HC2
        rw [← hps1] at HLP1
        clear hps1
        have hup := doneUp_ok HAL.out
        have k0 := HC2.out.page.c0
        have k1 := HC2.out.page.c1
        obtain ⟨r0, r1, r2, r3, r4, r5, r6, r7, r8, r9, rl⟩ := HRB2.out
        simp only at r0 r1 r2 r3 r4 r5 r6 r7 r8 r9
        clear rl
        have HRD := hide (redo_yes (k : Int) ((k : Int) + 1) ao n c (doneUp rs) (⟨2, 1, 1, 0, 0, (key : Int), false, false, 0, 0⟩ : R) A2 HC2.out.ent.row hup.1 HC2.out.many (by rfl) (by omega) (okD_few (⟨2, 1, 1, 0, 0, (key : Int), false, false, 0, 0⟩ : R) (by have := hup.2.2; omega)))
        unfold R.val pageV at HRD
        simp only at HRD
        rw [← HES1.out] at HRD
        clear hup
        go_wp2_with fail
        refine HRD.out.mono ?_
        rintro e x5 ⟨a4, m4, c4, rfl, hm4, hown4, hb⟩
        clear HRD k0 k1
        clear r0 r1 r2 r3 r4 r5 r6 r7 r8 r9
        have HO5 := hide (hown4.mono (show P + 1 ≤ A2.heap.size from HC2.out.page.lt))
        have HM4 := hide hm4
        have HC5 := hide (HC2.out.step hb)
        clear hown4 hm4 hb HC2 HRB2
        have hbz := below_box x5 (pageBlock ((k : Int) + 1) a4 m4 c4)
        have HQ := hide (pblk_new x5 ((k : Int) + 1) a4 m4 c4)
        have HC6 := hide (HC5.out.step hbz)
        have HO6 := hide (HO5.out.step hbz)
        unfold pageBlock at HQ HC6 HO6
        clear hbz HC5 HO5
        go_upto_region 20 with fail
        obtain ⟨Q, hQ⟩ : ∃ Q, Q = x5.heap.size := ⟨_, rfl⟩
        rw [← hQ] at HQ ⊢
        obtain ⟨Y6, hY6⟩ : ∃ Y6, Y6 = x5.alloc (.cells #[.int .i64 ((k : Int) + 1), .slice a4 m4 c4] 24) := ⟨_, rfl⟩
        rw [← hY6] at HQ HC6 HO6 ⊢
        clear hQ hY6
        have k0 := HC6.out.page.c0
        have k1 := HC6.out.page.c1
        have kf := HC6.out.page.fz
        have f0 := kf 0
        have f1 := kf 1
        clear kf
        have q0 := HQ.out.c0
        have q1 := HQ.out.c1
        go_wp2_with fail
        go_roundw
        case rel => exact ⟨k + 1, (ns + 1 + 1), rs1, rao2, rc2, ps1, pao2, pc2, a4, m4, c4, by go_num, by omega, HNS.out, rfl, rfl, HLR1.out, HLP1.out, HAL1.out, by have := HC6.out.setP ((k : Int) + 1) a4 m4 c4 HO6.out HM4.out; rw [show ((k + 1 : Nat) : Int) = (k : Int) + 1 by omega]; exact this⟩
        case measure => simp [intOf]; omega
    · obtain rfl : n0 = k := by omega
      clear HN0 hlt
      by_cases hz : n0 = 0
      · have hz1 : (n0 : Int) = 0 := by omega
        go_wp2_with fail
        go_ret
        exact ⟨rfl, HC0.out.bel⟩
      have hz1 : ¬ (n0 : Int) = 0 := by omega
      have hz2 : ((n0 : Int) == 0) = false := by simp; omega
      go_wp2_with fail
      refine (number_any _ _ _ (by omega) (by omega)).mono ?_
      rintro e z1 ⟨rfl, rfl⟩
      have hf := numberB_bd a1 n0 (by omega)
      obtain ⟨f, hf1⟩ : ∃ f : Nat, (f : Int) = numberB a1 n0 := ⟨(numberB a1 n0).toNat, by omega⟩
      rw [← hf1] at hf ⊢
      clear hf1
      have hfk : f < n0 := by omega
      have hfi : (f : Int) < (n0 : Int) := by omega
      clear hf
      obtain ⟨pb, po, rfl, hpb, hpc⟩ := HC0.out.pgs.row (by rw [HLP.out]; omega)
      obtain ⟨⟨ql, a2, m2, c2⟩, hq⟩ : ∃ q, ps[f]? = some q := ⟨_, List.getElem?_eq_getElem (by rw [HLP.out]; exact hfk)⟩
      obtain ⟨hqo, hql, hqn⟩ := HC0.out.each f _ hq
      obtain ⟨h0, h1⟩ := hpc f _ hq
      simp only at hqo hql hqn h0 h1
      subst hql
      have HQO := hide hqo.row
      have HQN := hide hqn
      clear hpc hqo hqn hq hpb
      obtain ⟨bb, oo, hao, hcs⟩ := HC0.out.recs.row.2 (by rw [HLR.out]; omega)
      subst hao
      have HCS := hide hcs
      clear hcs
      have hbx := below_box z1 (pageBlock (f : Int) a2 m2 c2)
      have HP := hide (pblk_new z1 (f : Int) a2 m2 c2)
      have HBX := hide hbx
      have HE := hide (HQO.out.step hbx)
      unfold pageBlock at HP HE HBX
      clear hbx HQO
      go_upto_region 27 with fail
      obtain ⟨S, hS⟩ : ∃ S, S = z1.heap.size := ⟨_, rfl⟩
      have HSS := hide hS
      rw [← hS] at HP HBX ⊢
      obtain ⟨Y0, hY0⟩ : ∃ Y0, Y0 = z1.alloc (.cells #[.int .i64 (f : Int), .slice a2 m2 c2] 24) := ⟨_, rfl⟩
      rw [← hY0] at HP HE HBX ⊢
      clear hS hY0 h0 h1
      go_wp2_with fail
      go_loopw [18] (fun i wr2 => ∃ (j L : Nat) (a2 : Option Addr) (m2 c2 : Nat), i = .int .i64 j ∧ j ≤ n0 ∧ L = max j f ∧ PBlk wr2 S (L : Int) a2 m2 c2 ∧ EntRow wr2 a2 (esAt rs L) ∧ (esAt rs L).length = m2 ∧ Below S z1 wr2) (fun i _ => n0 - (intOf i).toNat)
      case atStart => exact ⟨0, f, a2, m2, c2, rfl, by omega, by omega, HP.out, HE.out, HQN.out, HBX.out⟩
      case round =>
        clear HP HE HQN HBX
        obtain ⟨j, L, a2, m2, c2, rfl, hj, hL, hp, he, hm, hb⟩ := hrel
        have HP := hide hp
        have HE := hide he
        have HM := hide hm
        have HBL := hide hb
        clear hp he hm hb
        have HSW : Hid (S ≤ wr.heap.size) := by have := HP.out.lt; show S ≤ _; omega
        by_cases hlt : j < n0
        · have hji : (j : Int) < (n0 : Int) := by omega
          obtain ⟨r, hat⟩ : ∃ r, rs[j]? = some r := ⟨_, List.getElem?_eq_getElem (by rw [HLR.out]; exact hlt)⟩
          have hcz := HCS.out j r hat
          have hcf := hcz.of_block (HBL.out.block bb (by rw [HSS.out]; exact hcz.lt)) (by have := HBL.out.size; exact this)
          have HAT := hide hat
          clear hat hcz
          by_cases hjf : j < f
          · have hLf : L = f := by omega
            have hjfi : ¬ (f : Int) ≤ (j : Int) := by omega
            have hjL : (j : Int) + 1 ≤ (L : Int) := by omega
            have HLN : Hid (L = max (j + 1) f) := by show _ = _; omega
            clear hL hLf
            go_wp2_with fail
            have HRD : Hid (∀ X, EntRow X a2 (esAt rs L) → Calls Tryd.prog 27 #[.agg #[.int .i64 (L : Int), .slice a2 m2 c2], .int .i64 ((j : Int) + 1), .agg #[.int .i64 r.kind, .int .i64 r.txn, .int .i64 r.page, .int .i64 r.prev, .int .i64 r.next, .int .i64 r.key, .bool r.had, .bool r.has, .int .i64 r.old, .int .i64 r.new]] X fun e w' => ∃ a3 m3 c3, e = .returned (.tuple #[.agg #[.int .i64 (L : Int), .slice a3 m3 c3], .bool false, .nilIface]) ∧ (esAt rs L).length = m3 ∧ OwnE w' X.heap.size a3 c3 (esAt rs L) ∧ Below X.heap.size X w') := fun X hX => by
              refine (redo_skip (L : Int) ((j : Int) + 1) a2 m2 c2 (esAt rs L) r X hX HM.out (by unfold skipD; rw [decide_eq_true (show (j : Int) + 1 ≤ (L : Int) by omega), Bool.or_true])).mono ?_
              rintro e z ⟨a3, c3, rfl, h1, h2⟩
              exact ⟨a3, m2, c3, rfl, HM.out, h1, h2⟩
            have HWR : Hid (IntKind.i64.wrap ((j : Int) + 1) = (j : Int) + 1) := by show _ = _; rw [IntKind.wrap_i64]; omega
            have hnx : ¬ wr.heap.size = S := by have := HP.out.lt; omega
            have hnx2 : ¬ S = wr.heap.size := by have := HP.out.lt; omega
            have hnb : ¬ wr.heap.size = bb := by have := hcf.lt; omega
            have hnb2 : ¬ bb = wr.heap.size := by have := hcf.lt; omega
            have HCF := hide hcf
            obtain ⟨j0, j1, j2, j3, j4, j5, j6, j7, j8, j9, jl⟩ := hcf
            have k0 := HP.out.c0
            have k1 := HP.out.c1
            clear jl
            apply dup6 (A := Option Addr) (B := Nat) (C := Nat) (D := World) (E := Nat) (F := Nat) (I := fun a3 m3 c3 Y Q _ => PBlk Y Q (L : Int) a3 m3 c3 ∧ PBlk Y S (L : Int) a2 m2 c2 ∧ EntRow Y a3 (esAt rs L) ∧ (esAt rs L).length = m3 ∧ Q ≠ S ∧ Below wr.heap.size wr Y)
            case k =>
              intro TAIL
              obtain ⟨dd, hdd⟩ : ∃ dd : Nat, dd = 0 := ⟨_, rfl⟩
              clear hdd
              have HT := hide TAIL
              clear TAIL
              go_region_held3 (fun w' => w'.cell? ⟨S, 0, none⟩ = some (.int .i64 (L : Int)) ∧ w'.cell? ⟨S, 1, none⟩ = some (.slice a2 m2 c2) ∧ w'.cell? ⟨bb, oo + j * 10, none⟩ = some (.int .i64 r.kind) ∧ w'.cell? ⟨bb, oo + j * 10 + 1, none⟩ = some (.int .i64 r.txn) ∧ w'.cell? ⟨bb, oo + j * 10 + 2, none⟩ = some (.int .i64 r.page) ∧ w'.cell? ⟨bb, oo + j * 10 + 3, none⟩ = some (.int .i64 r.prev) ∧ w'.cell? ⟨bb, oo + j * 10 + 4, none⟩ = some (.int .i64 r.next) ∧ w'.cell? ⟨bb, oo + j * 10 + 5, none⟩ = some (.int .i64 r.key) ∧ w'.cell? ⟨bb, oo + j * 10 + 6, none⟩ = some (.bool r.had) ∧ w'.cell? ⟨bb, oo + j * 10 + 7, none⟩ = some (.bool r.has) ∧ w'.cell? ⟨bb, oo + j * 10 + 8, none⟩ = some (.int .i64 r.old) ∧ w'.cell? ⟨bb, oo + j * 10 + 9, none⟩ = some (.int .i64 r.new)) (first | go_keep | (refine ⟨?_, ?_, ?_, ?_, ?_, ?_, ?_, ?_, ?_, ?_, ?_, ?_⟩ <;> first | assumption | (simp [World.cell?_setCell, *])))
                (first | (go_at_call 27; rw [HWR.out]; refine (HRD.out _ (HE.out.step (by first | exact below_drew (Below.refl _ _) | exact (below_drew (Below.refl _ _)).alloc (Nat.le_refl _) _))).mono ?_; rintro e x3 ⟨a3, m3, c3, rfl, hm3, hown3, hb3⟩; have hbA : Below wr.heap.size wr x3 := (by first | exact over (below_drew (Below.refl _ _)) hb3 (Nat.le_refl _) | exact over ((below_drew (Below.refl _ _)).alloc (Nat.le_refl _) _) hb3 (by simp)); have HBA := hide hbA; have HM3 := hide hm3; have HE3 := hide hown3.row; clear hm3 hown3; have HP3 := hide (HP.out.step hbA); have D0 := HP3.out.c0; have D1 := HP3.out.c1; have hny : ¬ x3.heap.size = S := (by have := HP3.out.lt; omega); have hny2 : ¬ S = x3.heap.size := (by have := HP3.out.lt; omega); obtain ⟨p0, p1, p2, p3, p4, p5, p6, p7, p8, p9, pl⟩ := HCF.out.of_block (hbA.block bb HCF.out.lt) hbA.size; have hnyb : ¬ x3.heap.size = bb := (by omega); have hnyb2 : ¬ bb = x3.heap.size := (by omega); clear pl hbA; (first | (have Z6 : PBlk x3 wr.heap.size 0 none 0 0 := (pblk_new wr.drew 0 none 0 0).step hb3; have HZ6 := hide Z6; have ZC0 := Z6.c0; have ZC1 := Z6.c1; have ZF0 := Z6.fz 0; have ZF1 := Z6.fz 1; clear Z6) | skip); clear hb3))
              all_goals
                first
                  | (have hq := HZ6.out.put (L : Int) a3 m3 c3
                     have hp := (HP3.out.far hnx 0 (.int .i64 (L : Int))).far hnx 1 (.slice a3 m3 c3)
                     have he := EntRow.set (set_block HZ6.out 0 (.int .i64 (L : Int))) (EntRow.set HZ6.out HE3.out 0 (.int .i64 (L : Int))) 1 (.slice a3 m3 c3)
                     have hb := (HBA.out.setCell (p := ⟨wr.heap.size, 0, none⟩) (Nat.le_refl _) (.int .i64 (L : Int))).setCell (p := ⟨wr.heap.size, 1, none⟩) (Nat.le_refl _) (.slice a3 m3 c3)
                     have hne : wr.heap.size ≠ S := hnx
                     obtain ⟨Q, hQ⟩ : ∃ Q, Q = wr.heap.size := ⟨_, rfl⟩
                     have HQ0 := hide hQ
                     obtain ⟨Y, hY⟩ : ∃ Y, Y = (x3.setCell ⟨wr.heap.size, 0, none⟩ (.int .i64 (L : Int))).setCell ⟨wr.heap.size, 1, none⟩ (.slice a3 m3 c3) := ⟨_, rfl⟩
                     rw [← hY] at hq hp he hb ⊢
                     rw [← hQ] at hq hne ⊢
                     exact HT.out a3 m3 c3 Y Q dd ⟨hq, hp, he, HM3.out, hne, hb⟩)
                  | (have hbx := below_box x3 (pageBlock (L : Int) a3 m3 c3)
                     have hq := pblk_new x3 (L : Int) a3 m3 c3
                     have hp := HP3.out.step hbx
                     have he := HE3.out.step hbx
                     have hb := over HBA.out hbx HBA.out.size
                     have hne : x3.heap.size ≠ S := hny
                     unfold pageBlock at hq hp he hb
                     obtain ⟨Q, hQ⟩ : ∃ Q, Q = x3.heap.size := ⟨_, rfl⟩
                     obtain ⟨Y, hY⟩ : ∃ Y, Y = x3.alloc (.cells #[.int .i64 (L : Int), .slice a3 m3 c3] 24) := ⟨_, rfl⟩
                     rw [← hY] at hq hp he hb ⊢
                     rw [← hQ] at hq hne ⊢
                     exact HT.out a3 m3 c3 Y Q dd ⟨hq, hp, he, HM3.out, hne, hb⟩)
            case h =>
              clear j0 j1 j2 j3 j4 j5 j6 j7 j8 j9 k0 k1 hnx hnx2 hnb hnb2 HWR
              rintro a3 m3 c3 Y Q _ ⟨hq, hp, he, hm3, hne, hb⟩
              have HQ := hide hq
              have HP3 := hide hp
              have HE3 := hide he
              have HM3 := hide hm3
              have HB3 := hide (over' HBL.out hb HSW.out)
              have HNE := hide hne
              clear hq hp he hm3 hb hne
              have q0 := HQ.out.c0
              have q1 := HQ.out.c1
              have p0 := HP3.out.c0
              have p1 := HP3.out.c1
              have f0 := HP3.out.fz 0
              have f1 := HP3.out.fz 1
              have hne : ¬ Q = S := HNE.out
              have hne2 : ¬ S = Q := fun e => HNE.out e.symm
              go_wp2_with fail
              go_roundw
              case rel => exact ⟨j + 1, L, a3, m3, c3, by go_num, by omega, by first | exact HLN.out | omega, by have := HP3.out.put (L : Int) a3 m3 c3; exact this, by exact EntRow.set (set_block HP3.out 0 _) (EntRow.set HP3.out HE3.out 0 _) 1 _, by exact HM3.out, (HB3.out.setCell (p := ⟨S, 0, none⟩) (Nat.le_refl _) _).setCell (p := ⟨S, 1, none⟩) (Nat.le_refl _) _⟩
              case measure => simp [intOf]; omega
          · have hLf : j = L := by omega
            have hjfi : (f : Int) ≤ (j : Int) := by omega
            clear hL
            subst hLf
            go_wp2_with fail
            have HRD : Hid (∀ X, EntRow X a2 (esAt rs j) → Calls Tryd.prog 27 #[.agg #[.int .i64 (j : Int), .slice a2 m2 c2], .int .i64 ((j : Int) + 1), .agg #[.int .i64 r.kind, .int .i64 r.txn, .int .i64 r.page, .int .i64 r.prev, .int .i64 r.next, .int .i64 r.key, .bool r.had, .bool r.has, .int .i64 r.old, .int .i64 r.new]] X fun e w' => ∃ a3 m3 c3, e = .returned (.tuple #[.agg #[.int .i64 ((j : Int) + 1), .slice a3 m3 c3], .bool true, .nilIface]) ∧ (doneE r (esAt rs j)).length = m3 ∧ OwnE w' X.heap.size a3 c3 (doneE r (esAt rs j)) ∧ Below X.heap.size X w') := fun X hX => by
              have hok := esAt_ok HAL.out j
              refine (redo_yes (j : Int) ((j : Int) + 1) a2 m2 c2 (esAt rs j) r X hX hok.1 HM.out (by unfold isChg; rw [decide_eq_true (HAL.out r (List.mem_of_getElem? HAT.out)).1]; rfl) (by omega) (okD_few r (by have := hok.2.2; omega))).mono ?_
              rintro e z ⟨a3, m3, c3, rfl, h0, h1, h2⟩
              exact ⟨a3, m3, c3, rfl, h0, h1, h2⟩
            have HWR : Hid (IntKind.i64.wrap ((j : Int) + 1) = (j : Int) + 1) := by show _ = _; rw [IntKind.wrap_i64]; omega
            have hnx : ¬ wr.heap.size = S := by have := HP.out.lt; omega
            have hnx2 : ¬ S = wr.heap.size := by have := HP.out.lt; omega
            have hnb : ¬ wr.heap.size = bb := by have := hcf.lt; omega
            have hnb2 : ¬ bb = wr.heap.size := by have := hcf.lt; omega
            have HCF := hide hcf
            obtain ⟨j0, j1, j2, j3, j4, j5, j6, j7, j8, j9, jl⟩ := hcf
            have k0 := HP.out.c0
            have k1 := HP.out.c1
            clear jl
            apply dup6 (A := Option Addr) (B := Nat) (C := Nat) (D := World) (E := Nat) (F := Nat) (I := fun a3 m3 c3 Y Q _ => PBlk Y Q ((j : Int) + 1) a3 m3 c3 ∧ PBlk Y S (j : Int) a2 m2 c2 ∧ EntRow Y a3 (doneE r (esAt rs j)) ∧ (doneE r (esAt rs j)).length = m3 ∧ Q ≠ S ∧ Below wr.heap.size wr Y)
            case k =>
              intro TAIL
              obtain ⟨dd, hdd⟩ : ∃ dd : Nat, dd = 0 := ⟨_, rfl⟩
              clear hdd
              have HT := hide TAIL
              clear TAIL
              go_region_held3 (fun w' => w'.cell? ⟨S, 0, none⟩ = some (.int .i64 (j : Int)) ∧ w'.cell? ⟨S, 1, none⟩ = some (.slice a2 m2 c2) ∧ w'.cell? ⟨bb, oo + j * 10, none⟩ = some (.int .i64 r.kind) ∧ w'.cell? ⟨bb, oo + j * 10 + 1, none⟩ = some (.int .i64 r.txn) ∧ w'.cell? ⟨bb, oo + j * 10 + 2, none⟩ = some (.int .i64 r.page) ∧ w'.cell? ⟨bb, oo + j * 10 + 3, none⟩ = some (.int .i64 r.prev) ∧ w'.cell? ⟨bb, oo + j * 10 + 4, none⟩ = some (.int .i64 r.next) ∧ w'.cell? ⟨bb, oo + j * 10 + 5, none⟩ = some (.int .i64 r.key) ∧ w'.cell? ⟨bb, oo + j * 10 + 6, none⟩ = some (.bool r.had) ∧ w'.cell? ⟨bb, oo + j * 10 + 7, none⟩ = some (.bool r.has) ∧ w'.cell? ⟨bb, oo + j * 10 + 8, none⟩ = some (.int .i64 r.old) ∧ w'.cell? ⟨bb, oo + j * 10 + 9, none⟩ = some (.int .i64 r.new)) (first | go_keep | (refine ⟨?_, ?_, ?_, ?_, ?_, ?_, ?_, ?_, ?_, ?_, ?_, ?_⟩ <;> first | assumption | (simp [World.cell?_setCell, *])))
                (first | (go_at_call 27; rw [HWR.out]; refine (HRD.out _ (HE.out.step (by first | exact below_drew (Below.refl _ _) | exact (below_drew (Below.refl _ _)).alloc (Nat.le_refl _) _))).mono ?_; rintro e x3 ⟨a3, m3, c3, rfl, hm3, hown3, hb3⟩; have hbA : Below wr.heap.size wr x3 := (by first | exact over (below_drew (Below.refl _ _)) hb3 (Nat.le_refl _) | exact over ((below_drew (Below.refl _ _)).alloc (Nat.le_refl _) _) hb3 (by simp)); have HBA := hide hbA; have HM3 := hide hm3; have HE3 := hide hown3.row; clear hm3 hown3; have HP3 := hide (HP.out.step hbA); have D0 := HP3.out.c0; have D1 := HP3.out.c1; have hny : ¬ x3.heap.size = S := (by have := HP3.out.lt; omega); have hny2 : ¬ S = x3.heap.size := (by have := HP3.out.lt; omega); obtain ⟨p0, p1, p2, p3, p4, p5, p6, p7, p8, p9, pl⟩ := HCF.out.of_block (hbA.block bb HCF.out.lt) hbA.size; have hnyb : ¬ x3.heap.size = bb := (by omega); have hnyb2 : ¬ bb = x3.heap.size := (by omega); clear pl hbA; (first | (have Z6 : PBlk x3 wr.heap.size 0 none 0 0 := (pblk_new wr.drew 0 none 0 0).step hb3; have HZ6 := hide Z6; have ZC0 := Z6.c0; have ZC1 := Z6.c1; have ZF0 := Z6.fz 0; have ZF1 := Z6.fz 1; clear Z6) | skip); clear hb3))
              all_goals
                first
                  | (have hq := HZ6.out.put ((j : Int) + 1) a3 m3 c3
                     have hp := (HP3.out.far hnx 0 (.int .i64 ((j : Int) + 1))).far hnx 1 (.slice a3 m3 c3)
                     have he := EntRow.set (set_block HZ6.out 0 (.int .i64 ((j : Int) + 1))) (EntRow.set HZ6.out HE3.out 0 (.int .i64 ((j : Int) + 1))) 1 (.slice a3 m3 c3)
                     have hb := (HBA.out.setCell (p := ⟨wr.heap.size, 0, none⟩) (Nat.le_refl _) (.int .i64 ((j : Int) + 1))).setCell (p := ⟨wr.heap.size, 1, none⟩) (Nat.le_refl _) (.slice a3 m3 c3)
                     have hne : wr.heap.size ≠ S := hnx
                     obtain ⟨Q, hQ⟩ : ∃ Q, Q = wr.heap.size := ⟨_, rfl⟩
                     have HQ0 := hide hQ
                     obtain ⟨Y, hY⟩ : ∃ Y, Y = (x3.setCell ⟨wr.heap.size, 0, none⟩ (.int .i64 ((j : Int) + 1))).setCell ⟨wr.heap.size, 1, none⟩ (.slice a3 m3 c3) := ⟨_, rfl⟩
                     rw [← hY] at hq hp he hb ⊢
                     rw [← hQ] at hq hne ⊢
                     exact HT.out a3 m3 c3 Y Q dd ⟨hq, hp, he, HM3.out, hne, hb⟩)
                  | (have hbx := below_box x3 (pageBlock ((j : Int) + 1) a3 m3 c3)
                     have hq := pblk_new x3 ((j : Int) + 1) a3 m3 c3
                     have hp := HP3.out.step hbx
                     have he := HE3.out.step hbx
                     have hb := over HBA.out hbx HBA.out.size
                     have hne : x3.heap.size ≠ S := hny
                     unfold pageBlock at hq hp he hb
                     obtain ⟨Q, hQ⟩ : ∃ Q, Q = x3.heap.size := ⟨_, rfl⟩
                     obtain ⟨Y, hY⟩ : ∃ Y, Y = x3.alloc (.cells #[.int .i64 ((j : Int) + 1), .slice a3 m3 c3] 24) := ⟨_, rfl⟩
                     rw [← hY] at hq hp he hb ⊢
                     rw [← hQ] at hq hne ⊢
                     exact HT.out a3 m3 c3 Y Q dd ⟨hq, hp, he, HM3.out, hne, hb⟩)
            case h =>
              clear j0 j1 j2 j3 j4 j5 j6 j7 j8 j9 k0 k1 hnx hnx2 hnb hnb2 HWR
              rintro a3 m3 c3 Y Q _ ⟨hq, hp, he, hm3, hne, hb⟩
              have HQ := hide hq
              have HP3 := hide hp
              have HE3 := hide he
              have HM3 := hide hm3
              have HB3 := hide (over' HBL.out hb HSW.out)
              have HNE := hide hne
              clear hq hp he hm3 hb hne
              have q0 := HQ.out.c0
              have q1 := HQ.out.c1
              have p0 := HP3.out.c0
              have p1 := HP3.out.c1
              have f0 := HP3.out.fz 0
              have f1 := HP3.out.fz 1
              have hne : ¬ Q = S := HNE.out
              have hne2 : ¬ S = Q := fun e => HNE.out e.symm
              go_wp2_with fail
              go_roundw
              case rel => exact ⟨j + 1, j + 1, a3, m3, c3, by go_num, by omega, by first | exact HLN.out | omega, by have := HP3.out.put ((j : Int) + 1) a3 m3 c3; rw [show ((j + 1 : Nat) : Int) = (j : Int) + 1 by omega]; exact this, by rw [esAt_succ HAT.out]; exact EntRow.set (set_block HP3.out 0 _) (EntRow.set HP3.out HE3.out 0 _) 1 _, by rw [esAt_succ HAT.out]; exact HM3.out, (HB3.out.setCell (p := ⟨S, 0, none⟩) (Nat.le_refl _) _).setCell (p := ⟨S, 1, none⟩) (Nat.le_refl _) _⟩
              case measure => simp [intOf]; omega
        · obtain rfl : j = n0 := by omega
          obtain rfl : L = j := by omega
          clear hL
          have k0 := HP.out.c0
          have k1 := HP.out.c1
          have HPP := hide (HC0.out.page.below HBL.out (by rw [HSS.out]; exact HC0.out.page.lt))
          have p0 := HPP.out.c0
          have p1 := HPP.out.c1
          have HEE := hide (HC0.out.ent.row.below HBL.out (by rw [HSS.out]; exact Nat.le_refl _))
          have HES : Hid (esAt rs L = doneUp rs) := esAt_all HLR.out
          go_wp2_with fail
          refine (samePage_any (L : Int) a2 m2 c2 (esAt rs L) (L : Int) ao n c (doneUp rs) wr HE.out HEE.out HM.out HC0.out.many).mono ?_
          rintro e z3 ⟨rfl, hb3⟩
          have HSM : Hid (samePgB (L : Int) (esAt rs L) (L : Int) (doneUp rs) = true) := by show samePgB _ _ _ _ = true; unfold samePgB; rw [HES.out]; simp
          rw [HSM.out]
          go_wp2_with fail
          go_ret
          exact ⟨rfl, over (over' HC0.out.bel HBL.out (by rw [HSS.out]; exact HC0.out.bel.size)) hb3 (Nat.le_trans HC0.out.bel.size HBL.out.size)⟩
end Go.Proofs.YtdijgpkcolpfoaaDoor.changeRows
