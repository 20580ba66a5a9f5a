
/- What the statement DiskLoose asks comes out true, at all arguments, where package api's variables hold errors of their own; nothing that was there is written. -/
import Derived.Test.YtedmgdiimfenaaaDoorPairEq
namespace Go.Proofs.YtedmgdiimfenaaaDoor.diskLoose
open Go.RowKit
set_option linter.unusedVariables false

/-- How many loose versions sector s has. -/
def cnt (vss : List (List (List Int))) (s : Nat) : Nat := (verOf vss s).length - 1
/-- The statement's own array of counts. -/
def cntBlock (f : Nat → Nat) : Obj := .cells #[.int .i64 (f 0), .int .i64 (f 1), .int .i64 (f 2), .int .i64 (f 3), .int .i64 (f 4), .int .i64 (f 5)] 45

theorem cntBlock_cell {w : World} {NB : Nat} {f : Nat → Nat} (h : w.heap[NB]? = some (cntBlock f)) (k : Nat) (hk : k < 6) : w.cell? ⟨NB, k, none⟩ = some (.int .i64 (f k)) := by
  rw [cell_row h]
  match k, hk with
  | 0, _ => rfl
  | 1, _ => rfl
  | 2, _ => rfl
  | 3, _ => rfl
  | 4, _ => rfl
  | 5, _ => rfl
theorem cntBlock_set {w : World} {NB : Nat} {f g : Nat → Nat} (h : w.heap[NB]? = some (cntBlock f)) (k : Nat) (hk : k < 6) (hg : ∀ s, s < 6 → g s = if s = k then f k + 1 else f s) : (w.setCell ⟨NB, k, none⟩ (.int .i64 ((f k : Int) + 1))).heap[NB]? = some (cntBlock g) := by
  have h0 := hg 0 (by omega); have h1 := hg 1 (by omega); have h2 := hg 2 (by omega); have h3 := hg 3 (by omega); have h4 := hg 4 (by omega); have h5 := hg 5 (by omega)
  rw [heap_set_same h]
  unfold cntBlock
  match k, hk with
  | 0, _ => simp at h0 h1 h2 h3 h4 h5; rw [h0, h1, h2, h3, h4, h5]; rfl
  | 1, _ => simp at h0 h1 h2 h3 h4 h5; rw [h0, h1, h2, h3, h4, h5]; rfl
  | 2, _ => simp at h0 h1 h2 h3 h4 h5; rw [h0, h1, h2, h3, h4, h5]; rfl
  | 3, _ => simp at h0 h1 h2 h3 h4 h5; rw [h0, h1, h2, h3, h4, h5]; rfl
  | 4, _ => simp at h0 h1 h2 h3 h4 h5; rw [h0, h1, h2, h3, h4, h5]; rfl
  | 5, _ => simp at h0 h1 h2 h3 h4 h5; rw [h0, h1, h2, h3, h4, h5]; rfl
theorem cnt_set {vss : List (List (List Int))} {k : Nat} (y : List Int) (hk : k < vss.length) (h1 : 1 ≤ (verOf vss k).length) (s : Nat) : cnt (vss.set k (vss.getD k [] ++ [y])) s = if s = k then cnt vss k + 1 else cnt vss s := by
  unfold cnt
  by_cases e : s = k
  · rw [if_pos e, e, verOf_set _ _ _ hk, List.length_append]
    show (verOf vss k).length + 1 - 1 = _
    omega
  · rw [if_neg e, verOf_set_ne _ _ _ _ e]

/-- The statement's array of counts, all made 0. -/
def wipe (y : World) (NB : Nat) : World := (((((y.setCell ⟨NB, 0, none⟩ (.int .i64 0)).setCell ⟨NB, 1, none⟩ (.int .i64 0)).setCell ⟨NB, 2, none⟩ (.int .i64 0)).setCell ⟨NB, 3, none⟩ (.int .i64 0)).setCell ⟨NB, 4, none⟩ (.int .i64 0)).setCell ⟨NB, 5, none⟩ (.int .i64 0)
theorem wipe_other (y : World) (NB k : Nat) (h : k ≠ NB) : (wipe y NB).heap[k]? = y.heap[k]? := by
  unfold wipe
  rw [Below.heap_setCell _ _ _ _ h, Below.heap_setCell _ _ _ _ h, Below.heap_setCell _ _ _ _ h, Below.heap_setCell _ _ _ _ h, Below.heap_setCell _ _ _ _ h, Below.heap_setCell _ _ _ _ h]
theorem wipe_size (y : World) (NB : Nat) : (wipe y NB).heap.size = y.heap.size := by simp [wipe, World.setCell]
theorem wipe_block {y : World} {NB : Nat} {f g : Nat → Nat} (h : y.heap[NB]? = some (cntBlock f)) (hg : ∀ s, s < 6 → g s = 0) : (wipe y NB).heap[NB]? = some (cntBlock g) := by
  unfold wipe
  rw [heap_set_same (heap_set_same (heap_set_same (heap_set_same (heap_set_same (heap_set_same h 0 _) 1 _) 2 _) 3 _) 4 _) 5 _]
  unfold cntBlock
  rw [hg 0 (by omega), hg 1 (by omega), hg 2 (by omega), hg 3 (by omega), hg 4 (by omega), hg 5 (by omega)]
  rfl
theorem wipe_below {w y : World} {B NB : Nat} (h : Below B w y) (hB : B ≤ NB) : Below B w (wipe y NB) := by
  unfold wipe
  exact (((((h.setCell hB _).setCell hB _).setCell hB _).setCell hB _).setCell hB _).setCell hB _
theorem wipe_disk {y : World} {K : Nat → Prop} {a : Nat → Addr} {d NB : Nat} {vss : List (List (List Int))} {off : Bool} {fuse : Int} (h : Disk y K a d vss off fuse) (hK : K NB) (hE : Errs (wipe y NB) K a) : Disk (wipe y NB) K a d vss off fuse := by
  obtain ⟨s, ss, h, e⟩ := h
  exact ⟨s, ss, h.other (by rw [wipe_size]; exact Nat.le_refl _) (fun k _ hk => wipe_other _ _ _ (fun e => hk (e ▸ hK))) hE, e⟩
set_option maxRecDepth 100000 in
set_option maxHeartbeats 1500000 in
theorem walk (a0 : Option Addr) (len0 cap0 : Nat) (z0 : List Int) (a1 : Int) (w : World) (w0 : IsRow .i64 w a0 len0 cap0 z0) (w1 : (Lit.int .i64 a1).wf = true) {a : Nat → Addr} (he : SomeErrs w 3 a) :
    Calls Tryd.prog 5 #[.slice a0 len0 cap0, .int .i64 a1] w fun e w' => e = .returned (.bool true) ∧ Below w.heap.size w w' := by
  have HE := hide (he.errs (Nat.le_refl _))
  have hn := numberB_bd a1 20 (by omega)
  obtain ⟨n, hn'⟩ : ∃ n : Nat, numberB a1 20 = n := ⟨(numberB a1 20).toNat, by omega⟩
  rw [hn'] at hn
  have HN := hide hn'
  have HR0 := hide w0
  clear hn' w1 w0 he
  by_cases hl40 : 40 < len0
  · have hli : (40 : Int) < (len0 : Int) := by omega
    go_enter Tryd.func5, Tryd.ntmps5
    go_wp2_with fail
    refine (dfirst_any _ HE.out).mono ?_
    rintro e x1 ⟨rfl, hb1⟩
    have HB1 := hide hb1
    clear hb1
    go_wp2_with fail
    go_ret
    exact ⟨rfl, HB1.out⟩
  · have hli : decide ((40 : Int) < (len0 : Int)) = false := by simp; omega
    obtain ⟨xs, hxl, hxr⟩ := irow_of_isrow HR0.out (by omega)
    have HXL := hide hxl
    have HXR := hide hxr
    clear hxl hxr HR0
    go_enter Tryd.func5, Tryd.ntmps5
    go_wp2_with fail
    refine (dfirst_any _ HE.out).mono ?_
    rintro e x1 ⟨rfl, hb1⟩
    have HB1 := hide hb1
    clear hb1
    go_wp2_with fail
    refine (number_any _ _ _ (by omega) (by omega)).mono ?_
    rintro e x2 ⟨rfl, rfl⟩
    rw [HN.out]
    go_wp2_with fail
    refine (new_any _ 6 (.inr (.inl ⟨by omega, by omega, by omega⟩)) (errs_below HE.out HB1.out)).mono ?_
    rintro e x3 ⟨d, rfl, hd, hdisk, hb3⟩
    have hbA : Below x3.heap.size x3 (x3.alloc (cntBlock fun _ => 0)) := (Below.refl _ _).alloc (Nat.le_refl _) _
    have HD := hide (hdisk.widen hbA)
    have HB3 := hide (over (over HB1.out hb3 HB1.out.size) hbA (Nat.le_trans HB1.out.size hb3.size))
    have HBK : Hid ((x3.alloc (cntBlock fun _ => 0)).heap[x3.heap.size]? = some (cntBlock fun _ => 0)) := heap_alloc_new _ _
    have HME : Hid (wider (fun b => b < x2.heap.size) x3.heap.size (x3.alloc (cntBlock fun _ => 0)).heap.size x3.heap.size) := .inr ⟨Nat.le_refl _, by simp⟩
    obtain ⟨K, hK⟩ : ∃ K, K = wider (fun b => b < x2.heap.size) x3.heap.size (x3.alloc (cntBlock fun _ => 0)).heap.size := ⟨_, rfl⟩
    have HNB : Hid (w.heap.size ≤ x3.heap.size) := Nat.le_trans HB1.out.size hb3.size
    have HKW : Hid (∀ b, b < w.heap.size → K b) := by intro b hb; rw [hK]; exact .inl (Nat.lt_of_lt_of_le hb HB1.out.size)
    rw [← hK] at HD HME
    clear hdisk hb3 hbA hd hK
    go_wp2_with fail
    go_loopw [8] (fun i wr => ∃ (k : Nat) (vss : List (List (List Int))), k ≤ len0 ∧ i = .int .i64 k ∧ vss.length = 6 ∧ (∀ s, s < 6 → (verOf vss s).length ≤ k + 1) ∧ Disk wr K a d vss false (-1) ∧ wr.heap[x3.heap.size]? = some (cntBlock (cnt vss)) ∧ Below w.heap.size w wr) (fun i _ => len0 - (intOf i).toNat)
    case atStart =>
      refine ⟨0, List.replicate 6 [fillOf 0], by omega, rfl, List.length_replicate .., fun s hs => ?_, HD.out, ?_, HB3.out⟩
      · have := verOf_rep 6 s [fillOf 0] hs
        rw [show verOf (List.replicate 6 [fillOf 0]) s = [fillOf 0] from this]
        simp
      · exact HBK.out
    case round =>
      clear HD HBK HB3
      obtain ⟨k, vss, hk, rfl, hlen, hcnt, hd, hblk, hb⟩ := hrel
      have HD := hide hd
      have HBL := hide hblk
      have HB := hide hb
      have HLEN := hide hlen
      have HC := hide hcnt
      clear hd hblk hb hlen hcnt
      by_cases hlt : k < len0
      · have hki : (k : Int) < (len0 : Int) := by omega
        obtain ⟨b, off, rfl, hbw, hcw⟩ := HXR.out.2.2 (by rw [HXL.out]; omega)
        have hcw := hcw k (by rw [HXL.out]; exact hlt)
        have hmb := numberB_bd (xs.getD k 0) 6 (by omega)
        obtain ⟨m, hm⟩ : ∃ m : Nat, numberB (xs.getD k 0) 6 = m := ⟨(numberB (xs.getD k 0) 6).toNat, by omega⟩
        have hm6 : m < 6 := by omega
        obtain ⟨y, hy⟩ : ∃ y, y = xs.getD k 0 := ⟨_, rfl⟩
        rw [← hy] at hcw hm
        have HM := hide hm
        clear hy hmb hm
        by_cases hc : (k : Int) % ((n : Int) + 2) = (n : Int) + 1
        · have hcb : ((k : Int) % ((n : Int) + 2) == (n : Int) + 1) = true := by simp [hc]
          have HC0 := hide hc
          clear hc
          go_wp2_with fail
          refine (sync_ok d HD.out (by omega)).mono ?_
          rintro e y1 ⟨rfl, hd1, hk1⟩
          rw [burnt_none] at hd1
          have HD1 := hide hd1
          have HB1' := hide (kept_all HB.out HKW.out hk1)
          have HBL1 := hide ((hk1.block _ HME.out).trans HBL.out)
          have HNIL : Hid ((looseL (vss.map synced)).length = 0) := by
            show (looseL (vss.map synced)).length = 0
            rw [looseL_nil fun s hs => by rw [verOf_map _ _ (by simpa using hs)]; simp [synced]]
            rfl
          clear hd1 hk1
          go_wp2_with fail
          refine (looses_any d HD1.out).mono ?_
          rintro e y2 ⟨lo, lc, rfl, _, hb2⟩
          rw [HNIL.out]
          have HD2 := hide (HD1.out.below hb2)
          have HB2 := hide (over HB1'.out hb2 HB1'.out.size)
          have hbl2 := (hb2.block _ (lt_of_block HBL1.out)).trans HBL1.out
          have c0 := cntBlock_cell hbl2 0 (by omega); have c1 := cntBlock_cell hbl2 1 (by omega); have c2 := cntBlock_cell hbl2 2 (by omega); have c3 := cntBlock_cell hbl2 3 (by omega); have c4 := cntBlock_cell hbl2 4 (by omega); have c5 := cntBlock_cell hbl2 5 (by omega)
          have f0 := frozen_row hbl2 0; have f1 := frozen_row hbl2 1; have f2 := frozen_row hbl2 2; have f3 := frozen_row hbl2 3; have f4 := frozen_row hbl2 4; have f5 := frozen_row hbl2 5
          have HBL2 := hide hbl2
          clear hb2 hbl2
          have hcy := (HB2.out.cell (p := ⟨b, off + k, none⟩) hbw).trans hcw
          have hbn : b ≠ x3.heap.size := Nat.ne_of_lt (Nat.lt_of_lt_of_le hbw HNB.out)
          have hbn' : x3.heap.size ≠ b := hbn.symm
          go_wp2_with fail
          rw [show (((((y2.setCell ⟨x3.heap.size, 0, none⟩ (.int .i64 0)).setCell ⟨x3.heap.size, 1, none⟩ (.int .i64 0)).setCell ⟨x3.heap.size, 2, none⟩ (.int .i64 0)).setCell ⟨x3.heap.size, 3, none⟩ (.int .i64 0)).setCell ⟨x3.heap.size, 4, none⟩ (.int .i64 0)).setCell ⟨x3.heap.size, 5, none⟩ (.int .i64 0) = wipe y2 x3.heap.size from rfl]
          have hbz := wipe_below HB2.out HNB.out
          have HDZ := hide (wipe_disk HD2.out HME.out (errsK HE.out hbz HKW.out))
          have HBZ := hide hbz
          obtain ⟨VS, hVS⟩ : ∃ VS, VS = vss.map synced := ⟨_, rfl⟩
          have hone : ∀ s, s < 6 → (verOf VS s).length = 1 := fun s hs => by rw [hVS, verOf_map _ _ (by rw [HLEN.out]; exact hs)]; rfl
          have HBLZ := hide (wipe_block (g := cnt VS) HBL2.out (fun s hs => by unfold cnt; rw [hone s hs]))
          have HLZ : Hid (VS.length = 6) := by show VS.length = 6; rw [hVS, List.length_map, HLEN.out]
          have HCZ : Hid (∀ s, s < 6 → (verOf VS s).length ≤ k + 1) := fun s hs => by rw [hone s hs]; omega
          rw [← hVS] at HDZ
          obtain ⟨z0', hz0'⟩ : ∃ z, z = wipe y2 x3.heap.size := ⟨_, rfl⟩
          rw [← hz0'] at HDZ HBZ HBLZ ⊢
          clear hbz hVS hone hz0' c0 c1 c2 c3 c4 c5 f0 f1 f2 f3 f4 f5 hcy HD HB HBL HLEN HC HD1 HB1' HBL1 HNIL HD2 HB2 HBL2
          refine (number_any _ _ _ (by omega) (by omega)).mono ?_
          rintro e z1 ⟨rfl, rfl⟩
          rw [HM.out]
          go_wp2_with fail
          refine (filled_any _ _).mono ?_
          rintro e z2 ⟨rfl, ho2, hb2⟩
          have HO2 := hide ho2
          have HD2 := hide (HDZ.out.below hb2)
          have HB2 := hide (over HBZ.out hb2 HBZ.out.size)
          have HBL2 := hide ((hb2.block _ (lt_of_block HBLZ.out)).trans HBLZ.out)
          clear ho2 hb2
          go_wp2_with fail
          refine (write_ok d m _ _ _ HD2.out (by rw [HLZ.out]; exact hm6) HO2.out.row (length_fillOf _) (by have h9 := HCZ.out m hm6; rw [verOf] at h9; omega) (by omega)).mono ?_
          rintro e z3 ⟨rfl, hd3, hk3⟩
          rw [burnt_none] at hd3
          obtain ⟨VT, hVT⟩ : ∃ VT, VT = VS.set m (VS.getD m [] ++ [fillOf ((k : Int) % 256)]) := ⟨_, rfl⟩
          rw [← hVT] at hd3
          have HLT : Hid (VT.length = 6) := by show VT.length = 6; rw [hVT, List.length_set, HLZ.out]
          have HCN : Hid (∀ s, cnt VT s = if s = m then cnt VS m + 1 else cnt VS s) := by
            intro s
            rw [hVT]
            exact cnt_set _ (by rw [HLZ.out]; exact hm6) (HDZ.out.one_le (by rw [HLZ.out]; exact hm6)) s
          have HCT : Hid (∀ s, s < 6 → (verOf VT s).length ≤ k + 1 + 1) := by
            intro s hs
            have h9 := HCZ.out s hs
            rw [hVT]
            by_cases e : s = m
            · rw [e, verOf_set _ _ _ (by rw [HLZ.out]; exact hm6), List.length_append]
              rw [e] at h9
              show (verOf VS m).length + 1 ≤ _
              omega
            · rw [verOf_set_ne _ _ _ _ e]
              omega
          have hbl3 := (hk3.block _ HME.out).trans HBL2.out
          have hc3 := cntBlock_cell hbl3 m hm6
          have hf3 := frozen_row hbl3 m
          have hcb := HCZ.out m hm6
          have hc9 : cnt VS m ≤ k + 1 := by unfold cnt; omega
          have HB3 := hide (kept_all HB2.out HKW.out hk3)
          have HD3 := hide hd3
          have HBL3 := hide hbl3
          obtain ⟨q, hq⟩ : ∃ q, q = cnt VS m := ⟨_, rfl⟩
          rw [← hq] at hc3 hc9
          have HQ := hide hq
          have hmi : (m : Int) < 6 := by omega
          clear hd3 hk3 hbl3 hVT hcb hq
          go_wp2_with fail
          have hb4 := HB3.out.setCell (p := ⟨x3.heap.size, m, none⟩) HNB.out (.int .i64 ((q : Int) + 1))
          have HB4 := hide hb4
          have HBL4 : Hid ((z3.setCell ⟨x3.heap.size, m, none⟩ (.int .i64 ((q : Int) + 1))).heap[x3.heap.size]? = some (cntBlock (cnt VT))) := by
            show _ = _
            rw [HQ.out]
            exact cntBlock_set HBL3.out m hm6 (fun s _ => HCN.out s)
          have HD4 := hide (HD3.out.setOther (p := ⟨x3.heap.size, m, none⟩) HME.out (.int .i64 ((q : Int) + 1)) (errsK HE.out hb4 HKW.out))
          obtain ⟨z4, hz4⟩ : ∃ z4, z4 = z3.setCell ⟨x3.heap.size, m, none⟩ (.int .i64 ((q : Int) + 1)) := ⟨_, rfl⟩
          rw [← hz4] at HB4 HBL4 HD4 ⊢
          clear hb4 hz4 hc3 hf3 HD3 HBL3 HB3 HCN HQ hc9
          refine (looses_any d HD4.out).mono ?_
          rintro e z5 ⟨lo, lc, rfl, hown5, hb5⟩
          have HD5 := hide (HD4.out.below hb5)
          have HB5 := hide (over HB4.out hb5 HB4.out.size)
          have HBL5 := hide ((hb5.block _ (lt_of_block HBL4.out)).trans HBL4.out)
          have HO5 := hide hown5
          obtain ⟨NL, hNL⟩ : ∃ NL, NL = (looseL VT).length := ⟨_, rfl⟩
          rw [← hNL] at HO5 ⊢
          have HNL := hide hNL
          have hNL6 : NL ≤ 6 := by have := looseL_le VT; rw [HLT.out] at this; omega
          clear hb5 hown5 hNL HD4 HB4 HBL4
          go_wp2_with fail
          go_loopw [10, 12] (fun v i wr => ∃ j r : Nat, j ≤ 6 ∧ i = .int .i64 j ∧ v = .int .i64 r ∧ r = (looseUp VT j).length ∧ ∃ nn, wr = z5.drewN nn) (fun _ i _ => 6 - (intOf i).toNat)
          case atStart => exact ⟨0, 0, by omega, rfl, rfl, rfl, 0, rfl⟩
          case round =>
            obtain ⟨j, r, hj, rfl, rfl, hr, nn, rfl⟩ := hrel
            have HR := hide hr
            clear hr
            by_cases hj6 : j < 6
            · have hji : (j : Int) < 6 := by omega
              have hcj := cntBlock_cell HBL5.out j hj6
              obtain ⟨q, hq⟩ : ∃ q, q = cnt VT j := ⟨_, rfl⟩
              rw [← hq] at hcj
              have HQ := hide hq
              clear hq
              have hrj : r ≤ j := by rw [HR.out]; exact looseUp_le VT j
              by_cases hq0 : q = 0
              · have hqb : ((q : Int) == 0) = true := by simp [hq0]
                have HNX : Hid (r = (looseUp VT (j + 1)).length) := by
                  show r = _
                  rw [looseUp_no (by have := HQ.out; unfold cnt at this; omega)]
                  exact HR.out
                clear hq0
                go_wp2_with fail
                refine ⟨?_, ?_⟩
                · exact ⟨j + 1, r, hj6, by go_num, rfl, HNX.out, nn, rfl⟩
                · simp only [intOf]
                  omega
              · have hqb : ((q : Int) == 0) = false := by simp [hq0]
                have hyes : 1 < (verOf VT j).length := by have := HQ.out; unfold cnt at this; omega
                have hat := looseUp_at VT j hyes VT.length (by rw [HLT.out]; exact hj6)
                have hrl : r < NL := by
                  have := (List.getElem?_eq_some_iff.1 hat).1
                  rw [HNL.out, HR.out]
                  exact this
                have HNX : Hid (r + 1 = (looseUp VT (j + 1)).length) := by
                  show r + 1 = _
                  rw [looseUp_yes hyes, List.length_append, HR.out]
                  rfl
                obtain ⟨g, cap, hv, hg1, hg2, hcells⟩ := owns_first HO5.out (by omega)
                simp only [Value.slice.injEq, true_and] at hv
                obtain ⟨rfl, rfl⟩ := hv
                obtain ⟨p1, p2⟩ := pairCells_at (looseL VT) r (j, (verOf VT j).length - 1) (by rw [HR.out]; exact hat)
                have hp1 := hcells _ _ p1
                have hp2 := hcells _ _ p2
                simp only at hp1 hp2
                rw [show (verOf VT j).length - 1 = q from HQ.out.symm] at hp2
                have hps := pair_same (j : Int) (q : Int)
                have hrb : decide ((NL : Int) ≤ (r : Int)) = false := by simp; omega
                have hri : (r : Int) < (NL : Int) := by omega
                clear hcells p1 p2 hat hyes hq0
                go_wp2_with fail
                go_quiet (fail)
                go_wp2_with fail
                refine ⟨?_, ?_⟩
                · exact ⟨j + 1, r + 1, hj6, by go_num, by go_num, HNX.out, _, rfl⟩
                · simp only [intOf]
                  omega
            · have hj' : j = 6 := by omega
              have HJ := hide hj'
              have hji : decide ((j : Int) < 6) = false := by simp; omega
              have hrn : r = NL := by rw [HR.out, hj', HNL.out, looseL, HLT.out]
              have hrb : ((r : Int) != (NL : Int)) = false := by simp [hrn]
              clear hj hj6 hj' hrn
              go_wp2_with fail
              refine ⟨?_, ?_⟩
              · exact ⟨k + 1, VT, hlt, by go_num, HLT.out, HCT.out, HD5.out.drewN nn, HBL5.out, below_drewN HB5.out nn⟩
              · simp only [intOf]
                omega
        · have hcb : ((k : Int) % ((n : Int) + 2) == (n : Int) + 1) = false := by simp [hc]
          clear hc
          have HDZ := HD
          have HBZ := HB
          have HBLZ := HBL
          have HLZ := HLEN
          have HCZ := HC
          obtain ⟨VS, hVS⟩ : ∃ VS, VS = vss := ⟨_, rfl⟩
          rw [← hVS] at HDZ HBLZ HLZ HCZ
          clear hVS HD HB HBL HLEN HC
          have hcz := (HBZ.out.cell (p := ⟨b, off + k, none⟩) hbw).trans hcw
          go_wp2_with fail
          refine (number_any _ _ _ (by omega) (by omega)).mono ?_
          rintro e z1 ⟨rfl, rfl⟩
          rw [HM.out]
          go_wp2_with fail
          refine (filled_any _ _).mono ?_
          rintro e z2 ⟨rfl, ho2, hb2⟩
          have HO2 := hide ho2
          have HD2 := hide (HDZ.out.below hb2)
          have HB2 := hide (over HBZ.out hb2 HBZ.out.size)
          have HBL2 := hide ((hb2.block _ (lt_of_block HBLZ.out)).trans HBLZ.out)
          clear ho2 hb2 hcz
          go_wp2_with fail
          refine (write_ok d m _ _ _ HD2.out (by rw [HLZ.out]; exact hm6) HO2.out.row (length_fillOf _) (by have h9 := HCZ.out m hm6; rw [verOf] at h9; omega) (by omega)).mono ?_
          rintro e z3 ⟨rfl, hd3, hk3⟩
          rw [burnt_none] at hd3
          obtain ⟨VT, hVT⟩ : ∃ VT, VT = VS.set m (VS.getD m [] ++ [fillOf ((k : Int) % 256)]) := ⟨_, rfl⟩
          rw [← hVT] at hd3
          have HLT : Hid (VT.length = 6) := by show VT.length = 6; rw [hVT, List.length_set, HLZ.out]
          have HCN : Hid (∀ s, cnt VT s = if s = m then cnt VS m + 1 else cnt VS s) := by
            intro s
            rw [hVT]
            exact cnt_set _ (by rw [HLZ.out]; exact hm6) (HDZ.out.one_le (by rw [HLZ.out]; exact hm6)) s
          have HCT : Hid (∀ s, s < 6 → (verOf VT s).length ≤ k + 1 + 1) := by
            intro s hs
            have h9 := HCZ.out s hs
            rw [hVT]
            by_cases e : s = m
            · rw [e, verOf_set _ _ _ (by rw [HLZ.out]; exact hm6), List.length_append]
              rw [e] at h9
              show (verOf VS m).length + 1 ≤ _
              omega
            · rw [verOf_set_ne _ _ _ _ e]
              omega
          have hbl3 := (hk3.block _ HME.out).trans HBL2.out
          have hc3 := cntBlock_cell hbl3 m hm6
          have hf3 := frozen_row hbl3 m
          have hcb := HCZ.out m hm6
          have hc9 : cnt VS m ≤ k + 1 := by unfold cnt; omega
          have HB3 := hide (kept_all HB2.out HKW.out hk3)
          have HD3 := hide hd3
          have HBL3 := hide hbl3
          obtain ⟨q, hq⟩ : ∃ q, q = cnt VS m := ⟨_, rfl⟩
          rw [← hq] at hc3 hc9
          have HQ := hide hq
          have hmi : (m : Int) < 6 := by omega
          clear hd3 hk3 hbl3 hVT hcb hq
          go_wp2_with fail
          have hb4 := HB3.out.setCell (p := ⟨x3.heap.size, m, none⟩) HNB.out (.int .i64 ((q : Int) + 1))
          have HB4 := hide hb4
          have HBL4 : Hid ((z3.setCell ⟨x3.heap.size, m, none⟩ (.int .i64 ((q : Int) + 1))).heap[x3.heap.size]? = some (cntBlock (cnt VT))) := by
            show _ = _
            rw [HQ.out]
            exact cntBlock_set HBL3.out m hm6 (fun s _ => HCN.out s)
          have HD4 := hide (HD3.out.setOther (p := ⟨x3.heap.size, m, none⟩) HME.out (.int .i64 ((q : Int) + 1)) (errsK HE.out hb4 HKW.out))
          obtain ⟨z4, hz4⟩ : ∃ z4, z4 = z3.setCell ⟨x3.heap.size, m, none⟩ (.int .i64 ((q : Int) + 1)) := ⟨_, rfl⟩
          rw [← hz4] at HB4 HBL4 HD4 ⊢
          clear hb4 hz4 hc3 hf3 HD3 HBL3 HB3 HCN HQ hc9
          refine (looses_any d HD4.out).mono ?_
          rintro e z5 ⟨lo, lc, rfl, hown5, hb5⟩
          have HD5 := hide (HD4.out.below hb5)
          have HB5 := hide (over HB4.out hb5 HB4.out.size)
          have HBL5 := hide ((hb5.block _ (lt_of_block HBL4.out)).trans HBL4.out)
          have HO5 := hide hown5
          obtain ⟨NL, hNL⟩ : ∃ NL, NL = (looseL VT).length := ⟨_, rfl⟩
          rw [← hNL] at HO5 ⊢
          have HNL := hide hNL
          have hNL6 : NL ≤ 6 := by have := looseL_le VT; rw [HLT.out] at this; omega
          clear hb5 hown5 hNL HD4 HB4 HBL4
          go_wp2_with fail
          go_loopw [10, 12] (fun v i wr => ∃ j r : Nat, j ≤ 6 ∧ i = .int .i64 j ∧ v = .int .i64 r ∧ r = (looseUp VT j).length ∧ ∃ nn, wr = z5.drewN nn) (fun _ i _ => 6 - (intOf i).toNat)
          case atStart => exact ⟨0, 0, by omega, rfl, rfl, rfl, 0, rfl⟩
          case round =>
            obtain ⟨j, r, hj, rfl, rfl, hr, nn, rfl⟩ := hrel
            have HR := hide hr
            clear hr
            by_cases hj6 : j < 6
            · have hji : (j : Int) < 6 := by omega
              have hcj := cntBlock_cell HBL5.out j hj6
              obtain ⟨q, hq⟩ : ∃ q, q = cnt VT j := ⟨_, rfl⟩
              rw [← hq] at hcj
              have HQ := hide hq
              clear hq
              have hrj : r ≤ j := by rw [HR.out]; exact looseUp_le VT j
              by_cases hq0 : q = 0
              · have hqb : ((q : Int) == 0) = true := by simp [hq0]
                have HNX : Hid (r = (looseUp VT (j + 1)).length) := by
                  show r = _
                  rw [looseUp_no (by have := HQ.out; unfold cnt at this; omega)]
                  exact HR.out
                clear hq0
                go_wp2_with fail
                refine ⟨?_, ?_⟩
                · exact ⟨j + 1, r, hj6, by go_num, rfl, HNX.out, nn, rfl⟩
                · simp only [intOf]
                  omega
              · have hqb : ((q : Int) == 0) = false := by simp [hq0]
                have hyes : 1 < (verOf VT j).length := by have := HQ.out; unfold cnt at this; omega
                have hat := looseUp_at VT j hyes VT.length (by rw [HLT.out]; exact hj6)
                have hrl : r < NL := by
                  have := (List.getElem?_eq_some_iff.1 hat).1
                  rw [HNL.out, HR.out]
                  exact this
                have HNX : Hid (r + 1 = (looseUp VT (j + 1)).length) := by
                  show r + 1 = _
                  rw [looseUp_yes hyes, List.length_append, HR.out]
                  rfl
                obtain ⟨g, cap, hv, hg1, hg2, hcells⟩ := owns_first HO5.out (by omega)
                simp only [Value.slice.injEq, true_and] at hv
                obtain ⟨rfl, rfl⟩ := hv
                obtain ⟨p1, p2⟩ := pairCells_at (looseL VT) r (j, (verOf VT j).length - 1) (by rw [HR.out]; exact hat)
                have hp1 := hcells _ _ p1
                have hp2 := hcells _ _ p2
                simp only at hp1 hp2
                rw [show (verOf VT j).length - 1 = q from HQ.out.symm] at hp2
                have hps := pair_same (j : Int) (q : Int)
                have hrb : decide ((NL : Int) ≤ (r : Int)) = false := by simp; omega
                have hri : (r : Int) < (NL : Int) := by omega
                clear hcells p1 p2 hat hyes hq0
                go_wp2_with fail
                go_quiet (fail)
                go_wp2_with fail
                refine ⟨?_, ?_⟩
                · exact ⟨j + 1, r + 1, hj6, by go_num, by go_num, HNX.out, _, rfl⟩
                · simp only [intOf]
                  omega
            · have hj' : j = 6 := by omega
              have HJ := hide hj'
              have hji : decide ((j : Int) < 6) = false := by simp; omega
              have hrn : r = NL := by rw [HR.out, hj', HNL.out, looseL, HLT.out]
              have hrb : ((r : Int) != (NL : Int)) = false := by simp [hrn]
              clear hj hj6 hj' hrn
              go_wp2_with fail
              refine ⟨?_, ?_⟩
              · exact ⟨k + 1, VT, hlt, by go_num, HLT.out, HCT.out, HD5.out.drewN nn, HBL5.out, below_drewN HB5.out nn⟩
              · simp only [intOf]
                omega
      · go_wp2_with fail
        go_ret
        exact ⟨rfl, HB.out⟩
end Go.Proofs.YtedmgdiimfenaaaDoor.diskLoose
