
/- What the document's own Read (phoenixref7) says of a sector's bytes. -/
import Derived.Test.YtdijgpkcolpfoaaDoorJoin17
import Derived.Test.YtdijgpkcolpfoaaDoorOwnPgGood
import Derived.Test.YtdijgpkcolpfoaaDoorJoin23
namespace Go.Proofs.YtdijgpkcolpfoaaDoor
open Go.RowKit
set_option linter.unusedVariables false

theorem getB_count (lsn : Int) (es : List (Int × Int)) (h : es.length ≤ 20) : getB (pageB lsn es) 4 2 = es.length := by
  unfold pageB
  rw [entUp_head _ _ _ _ _ (by omega), page2, get_put_same _ _ _ _ (by omega) (by rw [length_page1]; omega), show (256 : Int) ^ 2 = 65536 by decide]
  omega
/-- So many entries the document reads, and what it makes of them. -/
def keysR (xs : List Int) : Nat := min (getB xs 4 2).toNat 21
theorem isPage_doc {xs : List Int} (h0 : 0 ≤ getB xs 4 2) : isPage xs = (okP (lsnOf xs) (entsUp xs (keysR xs)) && decide (pageB (lsnOf xs) (entsUp xs (keysR xs)) = xs)) := by
  by_cases hm : getB xs 4 2 ≤ 20
  · have e : keysR xs = keysOf xs := by unfold keysR keysOf; omega
    rw [e]; rfl
  · have e1 : okP (lsnOf xs) (entsUp xs (keysR xs)) = false := by
      cases e : okP (lsnOf xs) (entsUp xs (keysR xs)) with
      | false => rfl
      | true =>
        have ho := ((okP_iff _ _).1 e).many
        rw [length_entsUp] at ho
        unfold keysR at ho
        omega
    rw [e1, Bool.false_and]
    cases e : isPage xs with
    | false => rfl
    | true =>
      unfold isPage at e
      simp only [Bool.and_eq_true, decide_eq_true_eq] at e
      have hk : (entsOf xs).length = 20 := by
        show (entsUp xs (keysOf xs)).length = 20
        rw [length_entsUp]; unfold keysOf; omega
      have hc := getB_count (lsnOf xs) (entsOf xs) (by omega)
      rw [e.2, hk] at hc
      omega
theorem prget_len (ao : Option Addr) (n cap : Nat) (xs : List Int) (a s : Int) (w : World) (h : Row w ao xs) (hn : xs.length = n) (ha : -9223372036854775808 ≤ a) (ha' : a ≤ 9223372036854775807) :
    Calls Tryd.prog 36 #[.slice ao n cap, .int .i64 a, .int .i64 s] w fun e w' => e = .returned (.int .u64 (getB xs a (widthB s).toNat)) ∧ w' = w := by subst hn; exact refGet_any ao cap xs a s w h ha ha'
theorem enters36 : Enters Tryd.prog 36 := enters Tryd.func36 (by kernel_rfl) (by kernel_rfl)
set_option maxHeartbeats 1000000 in
theorem prread_short (bo : Option Addr) (n cap : Nat) (w : World) (hn : n ≠ 256) :
    Calls Tryd.prog 17 #[.slice bo n cap] w fun e w' => e = .returned (.tuple #[pageV 0 none 0 0, .int .i64 103]) ∧ Below w.heap.size w w' := by
  have hne : ((n : Int) != 256) = true := by simp; omega
  unfold pageV
  go_enter Tryd.func17, Tryd.ntmps17
  go_wp2_with fail
  exact bodyPost_ret (v := .tuple #[.agg #[.int .i64 0, .slice none 0 0], .int .i64 103]) (by simp [results, Tryd.results17, go_sem]) rfl ⟨rfl, below_box _ _⟩

set_option maxRecDepth 100000 in
set_option maxHeartbeats 8000000 in
theorem prread_any (bo : Option Addr) (cap : Nat) (xs : List Int) (w : World) (h : Row w bo xs) (hl : xs.length = 256) :
    Calls Tryd.prog 17 #[.slice bo 256 cap] w fun e w' => Below w.heap.size w w' ∧ ((isPage xs = true ∧ ∃ ao m c, e = .returned (.tuple #[pageV (lsnOf xs) ao m c, .int .i64 0]) ∧ (entsOf xs).length = m ∧ OwnE w' w.heap.size ao c (entsOf xs)) ∨ (isPage xs = false ∧ e = .returned (.tuple #[pageV 0 none 0 0, .int .i64 107]))) := by
  have HR := hide h
  have HL := hide hl
  have HBY := hide h.2.1
  obtain ⟨n, hn⟩ : ∃ n, n = keysR xs := ⟨_, rfl⟩
  have hn21 : n ≤ 21 := by rw [hn]; unfold keysR; omega
  have HN := hide hn
  obtain ⟨L, hL⟩ : ∃ L, getB xs 0 4 = L := ⟨_, rfl⟩
  have hLb := getB4 xs h.2.1 0
  rw [hL] at hLb
  obtain ⟨hL0, hL1⟩ := hLb
  obtain ⟨M, hM⟩ : ∃ M, getB xs 4 2 = M := ⟨_, rfl⟩
  have hMb := getB2 xs h.2.1 4
  rw [hM] at hMb
  obtain ⟨hM0, hM1⟩ := hMb
  have hmin : min M 21 = (n : Int) := by rw [hn]; unfold keysR; rw [hM]; omega
  have HIS : Hid (isPage xs = (okP L (entsUp xs n) && decide (pageB L (entsUp xs n) = xs))) := by
    show isPage xs = _
    rw [isPage_doc (by rw [hM]; exact hM0), hn, ← hL]; rfl
  have HLS : Hid (lsnOf xs = L) := hL
  have HKO : Hid (isPage xs = true → entsOf xs = entsUp xs n) := fun hx => by
    have hk : keysR xs = keysOf xs := by
      unfold isPage at hx
      simp only [Bool.and_eq_true, decide_eq_true_eq] at hx
      have hq : (entsOf xs).length = keysOf xs := length_entsUp _ _
      have hc := getB_count (lsnOf xs) (entsOf xs) (by rw [hq]; exact keysOf_le xs)
      rw [hx.2, hq] at hc
      have := keysOf_le xs
      unfold keysR
      omega
    rw [hn, hk]; rfl
  have HL2 := hide hL
  have HM2 := hide hM
  clear h hl hn hL hM
  go_enter Tryd.func17, Tryd.ntmps17
  have hb0 := below_box w (pageBlock 0 none 0 0)
  have HB0 := hide hb0
  have HR0 := hide (HR.out.below hb0 (Nat.le_refl _))
  have HZ : Hid ((w.alloc (pageBlock 0 none 0 0)).heap[w.heap.size]? = some (.cells #[.int .i64 0, .slice none 0 0] 24 (0, 0))) := heap_alloc_new _ _
  unfold pageBlock at HB0 HR0 HZ
  clear hb0
  go_wp2_with fail
  refine (prget_len bo 256 cap xs 0 4 _ HR0.out HL.out (by omega) (by omega)).mono ?_
  rintro e w1 ⟨rfl, rfl⟩
  rw [show getB xs 0 (widthB 4).toNat = L from HL2.out]
  obtain ⟨W, hW⟩ : ∃ W, W = w.alloc (.cells #[.int .i64 0, .slice none 0 0] 24) := ⟨_, rfl⟩
  rw [← hW] at HB0 HR0 HZ ⊢
  obtain ⟨B2, hB2⟩ : ∃ B2, B2 = w.heap.size := ⟨_, rfl⟩
  rw [← hB2] at HZ ⊢
  have HLO : Hid (w.heap.size ≤ B2) := by show w.heap.size ≤ B2; omega
  clear hW hB2
  have hbx := below_box W (pageBlock L none 0 0)
  have HP : Hid (PageAt w (W.alloc (pageBlock L none 0 0)) W.heap.size L none 0 0 []) := ⟨heap_alloc_new _ _, ownE_nil _ _, rfl, HB0.out.size, over HB0.out hbx HB0.out.size⟩
  have HZ1 : Hid ((W.alloc (pageBlock L none 0 0)).heap[B2]? = some (.cells #[.int .i64 0, .slice none 0 0] 24 (0, 0))) := (hbx.block B2 (lt_of_block HZ.out)).trans HZ.out
  have HR1 := hide (HR0.out.below hbx (Nat.le_refl _))
  unfold pageBlock at HP HZ1 HR1
  have HPB : Hid (W.heap.size ≠ B2) := by show W.heap.size ≠ B2; have := lt_of_block HZ.out; omega
  clear hbx HB0 HR0 HZ
  go_upto_region 4 with fail
  obtain ⟨X, hX⟩ : ∃ X, X = W.alloc (.cells #[.int .i64 L, .slice none 0 0] 24) := ⟨_, rfl⟩
  rw [← hX] at HP HZ1 HR1 ⊢
  obtain ⟨P, hP⟩ : ∃ P, P = W.heap.size := ⟨_, rfl⟩
  rw [← hP] at HP HPB ⊢
  clear hX hP
  go_wp2_with fail
  refine (prget_len bo 256 cap xs 4 2 _ HR1.out HL.out (by omega) (by omega)).mono ?_
  rintro e w2 ⟨rfl, rfl⟩
  rw [show getB xs 4 (widthB 2).toNat = M from HM2.out]
  go_wp2_with fail
  go_loopw [6] (fun i wr => ∃ (k : Nat) (ao : Option Addr) (c : Nat), i = .int .i64 k ∧ k ≤ n ∧ PageAt w wr P L ao k c (entsUp xs k) ∧ wr.heap[B2]? = some (.cells #[.int .i64 0, .slice none 0 0] 24 (0, 0)) ∧ Row wr bo xs) (fun i _ => n - (intOf i).toNat)
  case atStart => exact ⟨0, none, 0, rfl, by omega, HP.out, HZ1.out, HR1.out⟩
  case round =>
    clear HP HZ1 HR1
    obtain ⟨k, ao, c, rfl, hk, hp, hz, hr⟩ := hrel
    have HP := hide hp
    have HZ := hide hz
    have HR1 := hide hr
    clear hp hz hr
    by_cases hlt : k < n
    · have hki : (k : Int) < (n : Int) := by omega
      have hkb : k ≤ 21 := by omega
      obtain ⟨x0, hx⟩ : ∃ x0, getB xs (16 + (k : Int) * 12) 4 = x0 := ⟨_, rfl⟩
      have hxb := getB4 xs HBY.out (16 + (k : Int) * 12)
      rw [hx] at hxb
      obtain ⟨hx0, hx1⟩ := hxb
      obtain ⟨y0, hy⟩ : ∃ y0, getB xs (16 + (k : Int) * 12 + 4) 8 = y0 := ⟨_, rfl⟩
      have hyb := getB_bd xs HBY.out (16 + (k : Int) * 12 + 4) 8 (by omega)
      rw [hy] at hyb
      obtain ⟨v0, hv⟩ : ∃ v0, i64 y0 = v0 := ⟨_, rfl⟩
      have hw1 : wrap64 y0 = v0 := (i64_wrap y0 hyb).trans hv
      have hw2 : IntKind.i64.wrap y0 = v0 := by rw [← hv, IntKind.wrap_i64]; unfold i64; split <;> omega
      have hw3 : IntKind.i64.wrap x0 = x0 := by rw [IntKind.wrap_i64]; omega
      have hw4 : IntKind.i64.wrap (12 * (k : Int)) = 12 * (k : Int) := by rw [IntKind.wrap_i64]; omega
      have hw5 : IntKind.i64.wrap (16 + 12 * (k : Int)) = 16 + 12 * (k : Int) := by rw [IntKind.wrap_i64]; omega
      have hw6 : IntKind.i64.wrap (20 + 12 * (k : Int)) = 20 + 12 * (k : Int) := by rw [IntKind.wrap_i64]; omega
      have hw7 : wrap64 (12 * (k : Int)) = 12 * (k : Int) := by unfold wrap64; omega
      have hw8 : wrap64 (16 + 12 * (k : Int)) = 16 + 12 * (k : Int) := by unfold wrap64; omega
      have hw9 : wrap64 (20 + 12 * (k : Int)) = 20 + 12 * (k : Int) := by unfold wrap64; omega
      have HX := hide hx
      have HY := hide hy
      have HEN : Hid (entAt xs k = (x0, v0)) := by show _ = _; unfold entAt; rw [hx, hy, hv]
      obtain ⟨c0, c1, f1, cl⟩ := HP.out.cell
      obtain ⟨ao', c', w3, hrun, hc3, hf3, hpa, hoth⟩ := (HP.out.step (below_drew (Below.refl _ _))).append (by omega) (x0, v0) 22
      have HRUN : Hid ((Builtin.append_ #[22, 22] 22 #[.slice ao k c, .slice (some ⟨wr.heap.size, 0, none⟩) 1 1]).run Tryd.prog (wr.alloc (.cells #[.int .i64 x0, .int .i64 v0] 65)).drew = .ok (.slice ao' (k + 1) c') w3) := hrun
      rw [← HEN.out, ← entsUp_succ] at hpa
      have HPA := hide hpa
      have HZ3 := hide ((hoth B2 _ HZ.out HPB.out.symm).trans HZ.out)
      clear hoth
      have HC4 : Hid (Calls Tryd.prog 36 #[.slice bo 256 cap, .int .i64 (16 + 12 * (k : Int)), .int .i64 4] wr.drew fun e w' => e = .returned (.int .u64 x0) ∧ w' = wr.drew) := by
        refine (prget_len bo 256 cap xs (16 + 12 * (k : Int)) 4 wr.drew HR1.out HL.out (by omega) (by omega)).mono ?_
        rintro e z1 ⟨rfl, rfl⟩
        exact ⟨by rw [show (16 + 12 * (k : Int)) = 16 + (k : Int) * 12 by omega, show getB xs (16 + (k : Int) * 12) (widthB 4).toNat = x0 from hx], rfl⟩
      have HC8 : Hid (Calls Tryd.prog 36 #[.slice bo 256 cap, .int .i64 (20 + 12 * (k : Int)), .int .i64 8] wr.drew fun e w' => e = .returned (.int .u64 y0) ∧ w' = wr.drew) := by
        refine (prget_len bo 256 cap xs (20 + 12 * (k : Int)) 8 wr.drew HR1.out HL.out (by omega) (by omega)).mono ?_
        rintro e z1 ⟨rfl, rfl⟩
        exact ⟨by rw [show (20 + 12 * (k : Int)) = 16 + (k : Int) * 12 + 4 by omega, show getB xs (16 + (k : Int) * 12 + 4) (widthB 8).toNat = y0 from hy], rfl⟩
      clear hrun hpa hx hy hv hyb
      go_wp2_with fail
      apply dup
      case k =>
       intro TAIL
       go_region_law
        (first
          | (refine step_call_e (ys := [.tmp 26, .tmp 29, .const (.int .i64 4)]) (by rfl) (by rfl) enters36 (by simp [Act.eval, Act.put]) HC4.out ?_)
          | (refine step_call_e (ys := [.tmp 32, .tmp 35, .const (.int .i64 8)]) (by rfl) (by rfl) enters36 (by simp [Act.eval, Act.put]) HC8.out ?_)
          | (refine step_append_e (by rfl) (.tmp 25) (.tmp 39) 22 (by rfl) _ _ (by simp [Act.eval]) (by simp [Act.eval]) HRUN.out ?_))
       all_goals exact TAIL.out
      case h =>
        clear hc3 hf3 c0 c1 f1 cl hw1 hw2 hw3 hw4 hw5 hw6 hw7 hw8 hw9
        go_wp2_with fail
        go_roundw
        case rel => exact ⟨k + 1, ao', c', by go_num, by omega, HPA.out, HZ3.out, HR.out.below HPA.out.bel (Nat.le_refl _)⟩
        case measure => simp [intOf]; omega
    · have hki : decide ((k : Int) < (n : Int)) = false := by simp; omega
      have hkn : k = n := by omega
      subst hkn
      obtain ⟨c0, c1, f1, cl⟩ := HP.out.cell
      clear f1 cl
      obtain ⟨es, hes⟩ : ∃ es, es = entsUp xs k := ⟨_, rfl⟩
      have hlen : es.length = k := by rw [hes, length_entsUp]
      have HES := hide hes
      have HLEN := hide hlen
      rw [← hes] at HIS HKO HP
      clear hes hlen
      go_wp2_with fail
      refine (rgood_any L ao k c es _ HP.out.own.row HLEN.out (by omega)).mono ?_
      rintro e w3 ⟨rfl, hb⟩
      replace HZ := hide ((hb.block B2 (lt_of_block HZ.out)).trans HZ.out)
      replace HP := hide (HP.out.step hb)
      replace HR1 := hide (HR1.out.below hb (Nat.le_refl _))
      clear hb c0 c1
      obtain ⟨g, hg⟩ : ∃ g, g = okP L es := ⟨_, rfl⟩
      rw [← hg]
      have HG := hide hg
      clear hg
      have z0 := (cell_row HZ.out 0).trans (show _ = some (Value.int .i64 0) from rfl)
      have z1 := (cell_row HZ.out 1).trans (show _ = some (Value.slice none 0 0) from rfl)
      cases g
      case false =>
        have HNO : Hid (isPage xs = false) := by show isPage xs = false; rw [HIS.out, ← HG.out]; rfl
        have g0 : w3.frozen? ⟨B2, 0, none⟩ = false := by simp [World.frozen?, HZ.out]
        have g1 : w3.frozen? ⟨B2, 1, none⟩ = false := by simp [World.frozen?, HZ.out]
        go_wp2_with fail
        refine bodyPost_ret (v := .tuple #[.agg #[.int .i64 0, .slice none 0 0], .int .i64 107]) (by simp [results, Tryd.results17, go_sem, z0, z1]) rfl ⟨?_, .inr ⟨HNO.out, rfl⟩⟩
        exact (HP.out.bel.setCell (p := ⟨B2, 0, none⟩) HLO.out _).setCell (p := ⟨B2, 1, none⟩) HLO.out _
      case true =>
        obtain ⟨c0, c1, f1, cl⟩ := HP.out.cell
        clear f1 cl z0 z1
        go_wp2_with fail
        refine (rpb_ok L ao k c es _ HP.out.own.row HLEN.out HG.out.symm).mono ?_
        rintro e w4 ⟨g, rfl, hgb, hown, hb⟩
        have HO := hide hown.row
        replace HZ := hide ((hb.block B2 (lt_of_block HZ.out)).trans HZ.out)
        replace HP := hide (HP.out.step hb)
        replace HR1 := hide (HR1.out.below hb (Nat.le_refl _))
        clear hb hown hgb c0 c1
        go_wp2_with fail
        refine (same_len _ _ _ (pageB L es) _ _ _ xs _ HO.out HR1.out (length_pageB _ _) HL.out).mono ?_
        rintro e w5 ⟨rfl, q, hq⟩
        replace HZ : Hid (w5.heap[B2]? = some (.cells #[.int .i64 0, .slice none 0 0] 24 (0, 0))) := by show w5.heap[B2]? = _; rw [hq]; exact HZ.out
        replace HP := hide (show PageAt w w5 P L ao k c es by rw [hq]; exact HP.out.step (below_drewN (Below.refl _ _) _))
        clear hq HO HR1
        have z0 := (cell_row HZ.out 0).trans (show _ = some (Value.int .i64 0) from rfl)
        have z1 := (cell_row HZ.out 1).trans (show _ = some (Value.slice none 0 0) from rfl)
        have g0 : w5.frozen? ⟨B2, 0, none⟩ = false := by simp [World.frozen?, HZ.out]
        have g1 : w5.frozen? ⟨B2, 1, none⟩ = false := by simp [World.frozen?, HZ.out]
        by_cases hsame : pageB L es = xs
        · have HNO : Hid (isPage xs = true) := by show isPage xs = true; rw [HIS.out, ← HG.out, hsame]; simp
          rw [sameB_true hsame]
          obtain ⟨c0, c1, f1, cl⟩ := HP.out.cell
          have HNE : ¬ P = B2 := HPB.out
          have HNE2 : ¬ B2 = P := fun e => HNE e.symm
          clear hsame f1 cl
          go_wp2_with fail
          have hz2 := set_block HZ.out 0 (.int .i64 L)
          refine bodyPost_ret (v := .tuple #[.agg #[.int .i64 L, .slice ao k c], .int .i64 0]) (by simp [results, Tryd.results17, go_sem, z0, z1]) rfl ⟨?_, .inl ⟨HNO.out, ao, k, c, by rw [HLS.out]; rfl, by rw [HKO.out HNO.out]; exact HLEN.out, ?_⟩⟩
          · exact (HP.out.bel.setCell (p := ⟨B2, 0, none⟩) HLO.out _).setCell (p := ⟨B2, 1, none⟩) HLO.out _
          · rw [HKO.out HNO.out]
            exact (HP.out.own.setPage HZ.out 0 _).setPage hz2 1 _
        · have HNO : Hid (isPage xs = false) := by show isPage xs = false; rw [HIS.out, decide_eq_false hsame, Bool.and_false]
          have hsf : sameB (pageB L es) xs = false := by unfold sameB; exact decide_eq_false hsame
          rw [hsf]
          clear hsame hsf
          go_wp2_with fail
          refine bodyPost_ret (v := .tuple #[.agg #[.int .i64 0, .slice none 0 0], .int .i64 107]) (by simp [results, Tryd.results17, go_sem, z0, z1]) rfl ⟨?_, .inr ⟨HNO.out, rfl⟩⟩
          exact (HP.out.bel.setCell (p := ⟨B2, 0, none⟩) HLO.out _).setCell (p := ⟨B2, 1, none⟩) HLO.out _
end Go.Proofs.YtdijgpkcolpfoaaDoor
