/- Lemmas and contracts that the law stands on, joined: PageBytes. -/
import Derived.Test.YtjacenhblclkaaaDoorJoin10
import Derived.Test.YtjacenhblclkaaaDoorJoin12
/- What page.Check and page.Bytes answer: ErrRange of a page that may not be; else its bytes, in new memory; nothing that was there is written. -/
namespace Go.Proofs.YtjacenhblclkaaaDoor
open Go.RowKit
set_option linter.unusedVariables false

theorem rise_drop {es : List (Int × Int)} {k : Nat} {e : Int × Int} (h : es[k]? = some e) : es.drop k = e :: es.drop (k + 1) := by
  have hk := (List.getElem?_eq_some_iff.1 h).1
  rw [List.drop_eq_getElem_cons hk, (List.getElem?_eq_some_iff.1 h).2]
set_option maxRecDepth 100000 in
set_option maxHeartbeats 1000000 in
theorem rise_any (ao : Option Addr) (n c : Nat) (es : List (Int × Int)) (w : World) (h : EntRow w ao es) (hn : es.length = n) : Calls Tryd.prog 72 #[.slice ao n c] w fun e w' => e = .returned (.bool (riseB 0 es)) ∧ Below w.heap.size w w' := by
  have hs := h.1
  rw [hn] at hs
  have HR := hide h
  have HN := hide hn
  clear h hn
  go_enter Tryd.func72, Tryd.ntmps72
  go_wp2_with fail
  go_loopw [3, 8] (fun ls i wr => ∃ (k : Nat) (least : Int), 0 ≤ least ∧ k ≤ n ∧ i = .int .i64 k ∧ ls = .int .i64 least ∧ riseB 0 es = riseB least (es.drop k) ∧ Below w.heap.size w wr) (fun _ i _ => n - (intOf i).toNat)
  case atStart => exact ⟨0, 0, by omega, by omega, rfl, rfl, rfl, Below.refl _ _⟩
  case round =>
    obtain ⟨k, least, hls, hk, rfl, rfl, hrise, hbel⟩ := hrel
    have HB := hide hbel
    have HI := hide hrise
    clear hbel hrise
    by_cases hlt : k < n
    · have hki : (k : Int) < (n : Int) := by omega
      obtain ⟨e, he⟩ : ∃ e, es[k]? = some e := ⟨es[k]'(by rw [HN.out]; exact hlt), List.getElem?_eq_getElem _⟩
      obtain ⟨b, off, rfl, hlb, hc⟩ := HR.out.2 (by rw [HN.out]; omega)
      obtain ⟨c1, c2⟩ := hc k e he
      have k1 := (HB.out.cell (p := ⟨b, off + k * 2, none⟩) hlb).trans c1
      have k2 := (HB.out.cell (p := ⟨b, off + k * 2 + 1, none⟩) hlb).trans c2
      have HD := hide (rise_drop he)
      have HBX := hide (over HB.out (below_box wr (entBlock e)) HB.out.size)
      unfold entBlock at HBX
      obtain ⟨x, y⟩ := e
      simp only at k1 k2 HBX
      clear hc c1 c2 he hlb
      by_cases h1 : x < least
      · have HF : Hid (riseB 0 es = false) := by show riseB 0 es = false; rw [HI.out, HD.out]; exact rise_no (.inl h1)
        go_wp2_with fail
        go_ret
        exact ⟨ret_bool HF.out.symm, HBX.out⟩
      · have h1' : decide (x < least) = false := by simpa using h1
        by_cases h2 : 1048576 ≤ x
        · have HF : Hid (riseB 0 es = false) := by show riseB 0 es = false; rw [HI.out, HD.out]; exact rise_no (.inr h2)
          go_wp2_with fail
          go_ret
          exact ⟨ret_bool HF.out.symm, HBX.out⟩
        · have h2' : decide (1048576 ≤ x) = false := by simpa using h2
          have HF : Hid (riseB 0 es = riseB (x + 1) (es.drop (k + 1))) := by show riseB 0 es = _; rw [HI.out, HD.out]; exact rise_cons h1 h2
          have hx0 : 0 ≤ x := by omega
          have hx1 : x ≤ 1048576 := by omega
          go_wp2_with fail
          go_roundw
          case rel => exact ⟨k + 1, x + 1, by omega, by omega, by go_num, rfl, HF.out, HBX.out⟩
          case measure => simp [intOf]; omega
    · have hki : decide ((k : Int) < (n : Int)) = false := by simp; omega
      have HF : Hid (riseB 0 es = true) := by show riseB 0 es = true; rw [HI.out, List.drop_eq_nil_of_le (by rw [HN.out]; omega)]; rfl
      go_wp2_with fail
      go_ret
      exact ⟨ret_bool HF.out.symm, HB.out⟩
/-- What Check answers. -/
def checkPV (lsn : Int) (es : List (Int × Int)) (x : Addr) : Value := if okP lsn es then .nilIface else errV x
theorem checkPV_ok {lsn : Int} {es : List (Int × Int)} {x : Addr} (h : okP lsn es = true) : checkPV lsn es x = .nilIface := by unfold checkPV; rw [if_pos h]
theorem checkPV_no {lsn : Int} {es : List (Int × Int)} {x : Addr} (h : okP lsn es = false) : checkPV lsn es x = errV x := by unfold checkPV; rw [if_neg (by rw [h]; simp)]
set_option maxRecDepth 100000 in
set_option maxHeartbeats 2000000 in
theorem pcheck_any (lsn : Int) (ao : Option Addr) (n c : Nat) (es : List (Int × Int)) (w : World) (x : Addr) (hE : w.cell? ⟨0, 0, none⟩ = some (errV x)) (h : EntRow w ao es) (hn : es.length = n) : Calls Tryd.prog 38 #[pageV lsn ao n c] w fun e w' => e = .returned (checkPV lsn es x) ∧ Below w.heap.size w w' := by
  have hs := h.1
  rw [hn] at hs
  have HB := hide (below_box w (pageBlock lsn ao n c))
  have HR := hide (h.step HB.out)
  have hE1 := (HB.out.cell (World.block_lt_of_cell? w _ hE)).trans hE
  obtain ⟨k0, k1⟩ := page_cells w lsn ao n c
  have HN := hide hn
  have hok : okP lsn es = (decide (0 ≤ lsn) && (decide (lsn ≤ 1073741824) && (decide (n ≤ 20) && (riseB 0 es && (decide (n = 0) || decide (lsn ≠ 0)))))) := by rw [← hn]; rfl
  have HOK := hide hok
  unfold pageBlock at HB HR hE1 k0 k1
  clear hE h hn hok
  have HE : Hid (∀ b : Bool, okP lsn es = b → checkPV lsn es x = if b then .nilIface else errV x) := fun b hb => by rw [← hb]; rfl
  unfold errV at hE1
  unfold pageV
  by_cases h1 : 0 ≤ lsn
  · by_cases h2 : lsn ≤ 1073741824
    · by_cases h3 : n ≤ 20
      · have h3i : (n : Int) ≤ 20 := by omega
        go_enter Tryd.func38, Tryd.ntmps38
        go_wp2_with fail
        refine (rise_any ao n c es _ HR.out HN.out).mono ?_
        rintro e w1 ⟨rfl, hb⟩
        have HB1 := hide (over HB.out hb HB.out.size)
        have hE2 := (hb.cell (World.block_lt_of_cell? _ _ hE1)).trans hE1
        obtain ⟨k0', k1'⟩ : w1.cell? ⟨w.heap.size, 0, none⟩ = some (.int .i64 lsn) ∧ w1.cell? ⟨w.heap.size, 1, none⟩ = some (.slice ao n c) := ⟨(hb.cell (World.block_lt_of_cell? _ _ k0)).trans k0, (hb.cell (World.block_lt_of_cell? _ _ k1)).trans k1⟩
        clear hb k0 k1 hE1
        cases hr : riseB 0 es with
        | false =>
          have HV : Hid (checkPV lsn es x = errV x) := HE.out false (by rw [HOK.out, hr]; simp)
          clear hr
          go_wp2_with fail
          go_ret
          exact ⟨by rw [HV.out]; rfl, HB1.out⟩
        | true =>
          by_cases h4 : n = 0
          · have HV : Hid (checkPV lsn es x = .nilIface) := HE.out true (by rw [HOK.out, hr]; simp [h1, h2, h4])
            subst h4
            clear hr
            go_wp2_with fail
            go_ret
            exact ⟨by rw [HV.out]; rfl, HB1.out⟩
          · have h4i : ((n : Int) == 0) = false := by simp; omega
            by_cases h5 : lsn = 0
            · have HV : Hid (checkPV lsn es x = errV x) := HE.out false (by rw [HOK.out, hr]; simp [h4, h5])
              have h5i : (lsn != 0) = false := by simpa using h5
              clear hr
              subst h5
              go_wp2_with fail
              go_ret
              exact ⟨by rw [HV.out]; rfl, HB1.out⟩
            · have HV : Hid (checkPV lsn es x = .nilIface) := HE.out true (by rw [HOK.out, hr]; simp [h1, h2, h3, h5])
              have h5i : (lsn != 0) = true := by simpa using h5
              clear hr
              go_wp2_with fail
              go_ret
              exact ⟨by rw [HV.out]; rfl, HB1.out⟩
      · have h3i : decide ((n : Int) ≤ 20) = false := by simp; omega
        have HV : Hid (checkPV lsn es x = errV x) := HE.out false (by rw [HOK.out]; simp [h3])
        go_enter Tryd.func38, Tryd.ntmps38
        go_wp2_with fail
        go_ret
        exact ⟨by rw [HV.out]; rfl, HB.out⟩
    · have h2i : decide (lsn ≤ 1073741824) = false := by simpa using h2
      have HV : Hid (checkPV lsn es x = errV x) := HE.out false (by rw [HOK.out]; simp [h2])
      go_enter Tryd.func38, Tryd.ntmps38
      go_wp2_with fail
      go_ret
      exact ⟨by rw [HV.out]; rfl, HB.out⟩
  · have h1i : decide (0 ≤ lsn) = false := by simpa using h1
    have HV : Hid (checkPV lsn es x = errV x) := HE.out false (by rw [HOK.out]; simp [h1])
    go_enter Tryd.func38, Tryd.ntmps38
    go_wp2_with fail
    go_ret
    exact ⟨by rw [HV.out]; rfl, HB.out⟩
end Go.Proofs.YtjacenhblclkaaaDoor
