/- Lemmas and contracts that the law stands on, joined: PgSame. -/
import Derived.Test.YtdijgpkcolpfoaaDoorJoin10
import Derived.Test.YtdijgpkcolpfoaaDoorJoin9
import Derived.Deep.RegionHeld3
import Derived.Deep.Cut
/- What the document's own SameEntry, SameEntries, SamePage answer: whether two are the same. -/
namespace Go.Proofs.YtdijgpkcolpfoaaDoor
open Go.RowKit
set_option linter.unusedVariables false

/-- Two entries are the same. -/
def sameE (a b : Int × Int) : Bool := decide (a = b)
set_option maxRecDepth 100000 in
set_option maxHeartbeats 1000000 in
theorem sameEnt_any (a b : Int × Int) (w : World) : Calls Tryd.prog 52 #[entV a, entV b] w fun e w' => e = .returned (.bool (sameE a b)) ∧ Below w.heap.size w w' := by
  obtain ⟨x, y⟩ := a
  obtain ⟨u, v⟩ := b
  unfold entV
  simp only
  by_cases h1 : x = u
  · subst h1
    by_cases h2 : y = v
    · subst h2
      have HD : Hid (sameE (x, y) (x, y) = true) := by show _ = _; simp [sameE]
      go_enter Tryd.func52, Tryd.ntmps52
      go_wp2_with fail
      go_ret
      exact ⟨ret_bool HD.out.symm, (below_box w _).alloc (by simp) _⟩
    · have HD : Hid (sameE (x, y) (x, v) = false) := by show _ = _; simp [sameE, h2]
      have h2' : (y == v) = false := by simpa using h2
      go_enter Tryd.func52, Tryd.ntmps52
      go_wp2_with fail
      go_ret
      exact ⟨ret_bool HD.out.symm, (below_box w _).alloc (by simp) _⟩
  · have HD : Hid (sameE (x, y) (u, v) = false) := by show _ = _; simp [sameE, h1]
    have h1' : (x == u) = false := by simpa using h1
    go_enter Tryd.func52, Tryd.ntmps52
    go_wp2_with fail
    go_ret
    exact ⟨ret_bool HD.out.symm, (below_box w _).alloc (by simp) _⟩
theorem take_no {α : Type} {xs ys : List α} {k : Nat} {a b : α} (ha : xs[k]? = some a) (hb : ys[k]? = some b) (h : a ≠ b) : xs ≠ ys := by
  rintro rfl
  rw [ha] at hb
  exact h (by simpa using hb)
theorem take_up {α : Type} {xs ys : List α} {k : Nat} {a b : α} (ha : xs[k]? = some a) (hb : ys[k]? = some b) (h : a = b) (hk : xs.take k = ys.take k) : xs.take (k + 1) = ys.take (k + 1) := by
  rw [List.take_add_one, List.take_add_one, ha, hb, hk, h]
theorem len_no {α : Type} {xs ys : List α} {n m : Nat} (hn : xs.length = n) (hm : ys.length = m) (h : n ≠ m) : xs ≠ ys := by
  rintro rfl
  omega
set_option maxRecDepth 100000 in
set_option maxHeartbeats 4000000 in
theorem sameEnts_any (ao : Option Addr) (n c : Nat) (xs : List (Int × Int)) (bo : Option Addr) (m d : Nat) (ys : List (Int × Int)) (w : World) (h : EntRow w ao xs) (h' : EntRow w bo ys) (hn : xs.length = n) (hm : ys.length = m) :
    Calls Tryd.prog 37 #[.slice ao n c, .slice bo m d] w fun e w' => e = .returned (.bool (decide (xs = ys))) ∧ Below w.heap.size w w' := by
  have hs := h.1
  rw [hn] at hs
  by_cases hl : n = m
  · subst hl
    have hne : ((n : Int) != (n : Int)) = false := by simp
    have HR := hide h
    have HR' := hide h'
    have HN := hide hn
    have HM := hide hm
    clear h h' hn hm
    go_enter Tryd.func37, Tryd.ntmps37
    go_wp2_with fail
    go_loopw [5] (fun i wr => ∃ k : Nat, k ≤ n ∧ i = .int .i64 k ∧ Below w.heap.size w wr ∧ xs.take k = ys.take k) (fun i _ => n - (intOf i).toNat)
    case atStart => exact ⟨0, by omega, rfl, Below.refl _ _, rfl⟩
    case round =>
      obtain ⟨k, hk, rfl, hb, htk⟩ := hrel
      have HB := hide hb
      have HT := hide htk
      clear hb htk
      by_cases hlt : k < n
      · have hki : (k : Int) < (n : Int) := by omega
        have hN := HN.out
        have hM := HM.out
        obtain ⟨b, off, rfl, hlb, hc⟩ := HR.out.2 (by omega)
        obtain ⟨b', off', rfl, hlb', hc'⟩ := HR'.out.2 (by omega)
        obtain ⟨r, hr⟩ : ∃ r, xs[k]? = some r := ⟨xs[k]'(by omega), List.getElem?_eq_getElem _⟩
        obtain ⟨s, hs'⟩ : ∃ s, ys[k]? = some s := ⟨ys[k]'(by omega), List.getElem?_eq_getElem _⟩
        obtain ⟨c0, c1⟩ := hc k r hr
        obtain ⟨d0, d1⟩ := hc' k s hs'
        replace c0 := (HB.out.cell (p := ⟨b, off + k * 2, none⟩) hlb).trans c0
        replace c1 := (HB.out.cell (p := ⟨b, off + k * 2 + 1, none⟩) hlb).trans c1
        replace d0 := (HB.out.cell (p := ⟨b', off' + k * 2, none⟩) hlb').trans d0
        replace d1 := (HB.out.cell (p := ⟨b', off' + k * 2 + 1, none⟩) hlb').trans d1
        have H1 := hide hr
        have H2 := hide hs'
        obtain ⟨x, y⟩ := r
        obtain ⟨u, v⟩ := s
        simp only at c0 c1 d0 d1
        clear hc hc' hr hs' hN hM hlb hlb'
        have hl0 := World.block_lt_of_cell? _ _ c0
        have hl1 := World.block_lt_of_cell? _ _ d0
        have HC := hide (And.intro hl0 hl1)
        clear hl0 hl1
        go_wp2_with fail
        go_region_held3 (fun w' => w'.cell? ⟨b, off + k * 2, none⟩ = some (.int .i64 x) ∧ w'.cell? ⟨b, off + k * 2 + 1, none⟩ = some (.int .i64 y) ∧ w'.cell? ⟨b', off' + k * 2, none⟩ = some (.int .i64 u) ∧ w'.cell? ⟨b', off' + k * 2 + 1, none⟩ = some (.int .i64 v)) (first | go_keep | (refine ⟨?_, ?_, ?_, ?_⟩ <;> assumption))
          (first | (go_at_call 52; refine (sameEnt_any (x, y) (u, v) _).mono ?_; rintro e w2 ⟨rfl, hb2⟩; have hb2 := of_drew hb2; have C0 := (hb2.cell (World.block_lt_of_cell? wr _ c0)).trans c0; have C1 := (hb2.cell (World.block_lt_of_cell? wr _ c1)).trans c1; have D0 := (hb2.cell (World.block_lt_of_cell? wr _ d0)).trans d0; have D1 := (hb2.cell (World.block_lt_of_cell? wr _ d1)).trans d1; have HB2 := hide hb2; clear hb2))
        by_cases hsm : ((x, y) : Int × Int) = (u, v)
        · have HX := hide hsm
          rw [show sameE (x, y) (u, v) = true from decide_eq_true hsm]
          clear hsm
          go_wp2_with fail
          go_roundw
          case rel => exact ⟨k + 1, by omega, by go_num, over HB.out HB2.out HB.out.size, take_up H1.out H2.out HX.out HT.out⟩
          case measure => simp [intOf]; omega
        · have HX : Hid (decide (xs = ys) = false) := decide_eq_false (take_no H1.out H2.out hsm)
          rw [show sameE (x, y) (u, v) = false from decide_eq_false hsm]
          clear hsm
          go_wp2_with fail
          go_ret
          exact ⟨ret_bool HX.out.symm, over HB.out HB2.out HB.out.size⟩
      · have hki : decide ((k : Int) < (n : Int)) = false := by simp; omega
        go_wp2_with fail
        go_ret
        have hkn : k = n := by omega
        have hT := HT.out
        rw [hkn] at hT
        have e : xs = ys := by
          rw [← List.take_length (l := xs), ← List.take_length (l := ys), HN.out, HM.out, hT]
        exact ⟨ret_bool (decide_eq_true e).symm, HB.out⟩
  · have hne : ((n : Int) != (m : Int)) = true := by simp; omega
    have HF : Hid (decide (xs = ys) = false) := decide_eq_false (len_no hn hm hl)
    clear h h' hn hm hl
    go_enter Tryd.func37, Tryd.ntmps37
    go_wp2_with fail
    go_ret
    exact ⟨ret_bool HF.out.symm, Below.refl _ _⟩
/-- Two pages are the same. -/
def samePgB (l1 : Int) (xs : List (Int × Int)) (l2 : Int) (ys : List (Int × Int)) : Bool := decide (l1 = l2 ∧ xs = ys)
set_option maxRecDepth 100000 in
set_option maxHeartbeats 2000000 in
theorem samePage_any (l1 : Int) (ao : Option Addr) (n c : Nat) (xs : List (Int × Int)) (l2 : Int) (bo : Option Addr) (m d : Nat) (ys : List (Int × Int)) (w : World) (h : EntRow w ao xs) (h' : EntRow w bo ys) (hn : xs.length = n) (hm : ys.length = m) :
    Calls Tryd.prog 18 #[pageV l1 ao n c, pageV l2 bo m d] w fun e w' => e = .returned (.bool (samePgB l1 xs l2 ys)) ∧ Below w.heap.size w w' := by
  have hb1 := below_box w (pageBlock l1 ao n c)
  have hb2 := below_box (w.alloc (pageBlock l1 ao n c)) (pageBlock l2 bo m d)
  have HB := hide (over hb1 hb2 hb1.size)
  have HR := hide (h.below HB.out (Nat.le_refl _))
  have HR' := hide (h'.below HB.out (Nat.le_refl _))
  unfold pageBlock at HB HR HR'
  unfold pageV
  by_cases h1 : l1 = l2
  · subst h1
    have HV : Hid (samePgB l1 xs l1 ys = decide (xs = ys)) := by show _ = _; unfold samePgB; simp
    clear h h' hb1 hb2
    go_enter Tryd.func18, Tryd.ntmps18
    go_wp2_with fail
    refine (sameEnts_any ao n c xs bo m d ys _ HR.out HR'.out hn hm).mono ?_
    rintro e w1 ⟨rfl, hb⟩
    have HB1 := hide (over HB.out hb HB.out.size)
    clear hb
    go_wp2_with fail
    go_ret
    exact ⟨ret_bool HV.out.symm, HB1.out⟩
  · have HV : Hid (samePgB l1 xs l2 ys = false) := by show _ = _; unfold samePgB; simp [h1]
    have h1' : (l1 == l2) = false := by simpa using h1
    clear h h' hb1 hb2
    go_enter Tryd.func18, Tryd.ntmps18
    go_wp2_with fail
    go_ret
    exact ⟨ret_bool HV.out.symm, HB.out⟩
end Go.Proofs.YtdijgpkcolpfoaaDoor
