/- Lemmas and contracts that the law stands on, joined: DtCopy, DtSame. -/
import Derived.Test.YtmkbedfccgojpaaJoin12
import Derived.Test.YtmkbedfccgojpaaJoin7
import Derived.Test.YtmkbedfccgojpaaJoin10
import Derived.Deep.RegionHeld3
import Derived.Deep.Cut
/- What phoenixref.Dirties (a copy, in new memory) answers. -/
namespace Go.Proofs.Ytmkbedfccgojpaa
open Go.RowKit
set_option linter.unusedVariables false

set_option maxRecDepth 100000 in
set_option maxHeartbeats 2000000 in
theorem copyD_any (ao : Option Addr) (n c : Nat) (es : List (Int × Int)) (w : World) (h : DirRow w ao es) (hn : es.length = n) :
    Calls Try.prog 19 #[.slice ao n c] w fun e w' => ∃ ao' c', e = .returned (.slice ao' n c') ∧ OwnD w' w.heap.size ao' c' es ∧ Below w.heap.size w w' := by
  obtain ⟨i0, hi, hz0, hz1, hz2⟩ := info_parts Try.info42
  have hs := h.1
  rw [hn] at hs
  have HR := hide h
  have HN := hide hn
  clear h hn
  go_enter Try.func19, Try.ntmps19
  go_wp2_with (at_make; refine wpList_make_own w rfl (.const (.int .i64 0)) (.tmp 6) 27 rfl w.heap.size 42 i0 (.agg #[.int .i64 0, .int .i64 0]) 2 Try.underlying27 hi hz0 hz1 .i64 .i64 n n rfl rfl rfl (by rw [hz2]; omega) (by unfold maxLen; omega) (Nat.le_refl _) ?_; intro w1 hown hgr; have HB : Hid (Below w.heap.size w w1) := (Below.refl _ _).grown hgr (Nat.le_refl _) (by simp); have HO : Hid (OwnD w1 w.heap.size (some ⟨w.heap.size, 0, none⟩) n []) := ⟨hown, by simp⟩; clear hown hgr)
  go_loopw [3, 4] (fun v i wr => ∃ (k : Nat) (ao' : Option Addr) (c' : Nat), k ≤ n ∧ i = .int .i64 k ∧ v = .slice ao' k c' ∧ OwnD wr w.heap.size ao' c' (es.take k) ∧ Below w.heap.size w wr) (fun _ i _ => n - posOf i)
  case atStart => exact ⟨0, _, n, by omega, rfl, rfl, HO.out, HB.out⟩
  case round =>
    obtain ⟨k, ao', c', hk, rfl, rfl, hown, hbel⟩ := hrel
    have HO1 := hide hown
    have HB1 := hide hbel
    clear hown hbel HO HB
    by_cases hlt : k < n
    · have hki : (k : Int) < (n : Int) := by omega
      obtain ⟨e, he⟩ : ∃ e, es[k]? = some e := ⟨es[k]'(by rw [HN.out]; exact hlt), List.getElem?_eq_getElem _⟩
      obtain ⟨b, off, rfl, hlb, hc⟩ := HR.out.2 (by rw [HN.out]; omega)
      obtain ⟨c1, c2⟩ := hc k e he
      have k1 := (HB1.out.cell (p := ⟨b, off + k * 2, none⟩) hlb).trans c1
      have k2 := (HB1.out.cell (p := ⟨b, off + k * 2 + 1, none⟩) hlb).trans c2
      have hbx := below_box wr (dirBlock e)
      obtain ⟨ao2, c2', w2, hrun, hown2, hgr, hb2⟩ := run_appendD (yc := 1) (HO1.out.step hbx) (show (es.take k).length = k by rw [List.length_take, HN.out]; omega) (show [e].length = 1 from rfl) (by omega) (Nat.le_trans HB1.out.size hbx.size) (dir_new wr e) 27
      rw [← take_succ_at he] at hown2
      have HRUN := hide hrun
      have HO2 := hide hown2
      have HB2 := hide ((over HB1.out hbx HB1.out.size).trans hb2)
      clear hc c1 c2 hbx hrun hown2 hgr hb2 he hlb
      obtain ⟨x, y⟩ := e
      simp only at k1 k2
      go_wp2_with (first | (with_reducible refine buildD (x, y) ?_ ?_; rfl) | (at_builtin; refine wpList_append_runD rfl (.tmp 14) (.tmp 19) 27 rfl _ _ rfl rfl HRUN.out ?_))
      go_roundw
      case rel => exact ⟨k + 1, ao2, c2', by omega, by go_num, rfl, HO2.out, HB2.out⟩
      case measure => simp [posOf]; omega
    · have hki : decide ((k : Int) < (n : Int)) = false := by simp; omega
      have hkn : k = n := by omega
      subst hkn
      go_wp2_with fail
      go_ret
      have hO := HO1.out
      rw [List.take_of_length_le (by rw [HN.out]; exact Nat.le_refl _)] at hO
      exact ⟨ao', c', rfl, hO, HB1.out⟩
end Go.Proofs.Ytmkbedfccgojpaa

/- What the document's own SameEntry, SameEntries, SamePage answer: whether two are the same. -/
namespace Go.Proofs.Ytmkbedfccgojpaa
open Go.RowKit
set_option linter.unusedVariables false

/-- Two entries are the same. -/
def sameD (a b : Int × Int) : Bool := decide (a = b)
set_option maxRecDepth 100000 in
set_option maxHeartbeats 1000000 in
theorem sameDir_any (a b : Int × Int) (w : World) : Calls Try.prog 20 #[dirV a, dirV b] w fun e w' => e = .returned (.bool (sameD a b)) ∧ Below w.heap.size w w' := by
  obtain ⟨x, y⟩ := a
  obtain ⟨u, v⟩ := b
  unfold dirV
  simp only
  by_cases h1 : x = u
  · subst h1
    by_cases h2 : y = v
    · subst h2
      have HD : Hid (sameD (x, y) (x, y) = true) := by show _ = _; simp [sameD]
      go_enter Try.func20, Try.ntmps20
      go_wp2_with fail
      go_ret
      exact ⟨ret_bool HD.out.symm, (below_box w _).alloc (by simp) _⟩
    · have HD : Hid (sameD (x, y) (x, v) = false) := by show _ = _; simp [sameD, h2]
      have h2' : (y == v) = false := by simpa using h2
      go_enter Try.func20, Try.ntmps20
      go_wp2_with fail
      go_ret
      exact ⟨ret_bool HD.out.symm, (below_box w _).alloc (by simp) _⟩
  · have HD : Hid (sameD (x, y) (u, v) = false) := by show _ = _; simp [sameD, h1]
    have h1' : (x == u) = false := by simpa using h1
    go_enter Try.func20, Try.ntmps20
    go_wp2_with fail
    go_ret
    exact ⟨ret_bool HD.out.symm, (below_box w _).alloc (by simp) _⟩
theorem take_noD {α : Type} {xs ys : List α} {k : Nat} {a b : α} (ha : xs[k]? = some a) (hb : ys[k]? = some b) (h : a ≠ b) : xs ≠ ys := by
  rintro rfl
  rw [ha] at hb
  exact h (by simpa using hb)
theorem take_upD {α : Type} {xs ys : List α} {k : Nat} {a b : α} (ha : xs[k]? = some a) (hb : ys[k]? = some b) (h : a = b) (hk : xs.take k = ys.take k) : xs.take (k + 1) = ys.take (k + 1) := by
  rw [List.take_add_one, List.take_add_one, ha, hb, hk, h]
theorem len_noD {α : Type} {xs ys : List α} {n m : Nat} (hn : xs.length = n) (hm : ys.length = m) (h : n ≠ m) : xs ≠ ys := by
  rintro rfl
  omega
set_option maxRecDepth 100000 in
set_option maxHeartbeats 4000000 in
theorem sameDirs_any (ao : Option Addr) (n c : Nat) (xs : List (Int × Int)) (bo : Option Addr) (m d : Nat) (ys : List (Int × Int)) (w : World) (h : DirRow w ao xs) (h' : DirRow w bo ys) (hn : xs.length = n) (hm : ys.length = m) :
    Calls Try.prog 15 #[.slice ao n c, .slice bo m d] w fun e w' => e = .returned (.bool (decide (xs = ys))) ∧ Below w.heap.size w w' := by
  have hs := h.1
  rw [hn] at hs
  by_cases hl : n = m
  · subst hl
    have hne : ((n : Int) != (n : Int)) = false := by simp
    have HR := hide h
    have HR' := hide h'
    have HN := hide hn
    have HM := hide hm
    clear h h' hn hm
    go_enter Try.func15, Try.ntmps15
    go_wp2_with fail
    go_loopw [5] (fun i wr => ∃ k : Nat, k ≤ n ∧ i = .int .i64 k ∧ Below w.heap.size w wr ∧ xs.take k = ys.take k) (fun i _ => n - posOf i)
    case atStart => exact ⟨0, by omega, rfl, Below.refl _ _, rfl⟩
    case round =>
      obtain ⟨k, hk, rfl, hb, htk⟩ := hrel
      have HB := hide hb
      have HT := hide htk
      clear hb htk
      by_cases hlt : k < n
      · have hki : (k : Int) < (n : Int) := by omega
        have hN := HN.out
        have hM := HM.out
        obtain ⟨b, off, rfl, hlb, hc⟩ := HR.out.2 (by omega)
        obtain ⟨b', off', rfl, hlb', hc'⟩ := HR'.out.2 (by omega)
        obtain ⟨r, hr⟩ : ∃ r, xs[k]? = some r := ⟨xs[k]'(by omega), List.getElem?_eq_getElem _⟩
        obtain ⟨s, hs'⟩ : ∃ s, ys[k]? = some s := ⟨ys[k]'(by omega), List.getElem?_eq_getElem _⟩
        obtain ⟨c0, c1⟩ := hc k r hr
        obtain ⟨d0, d1⟩ := hc' k s hs'
        replace c0 := (HB.out.cell (p := ⟨b, off + k * 2, none⟩) hlb).trans c0
        replace c1 := (HB.out.cell (p := ⟨b, off + k * 2 + 1, none⟩) hlb).trans c1
        replace d0 := (HB.out.cell (p := ⟨b', off' + k * 2, none⟩) hlb').trans d0
        replace d1 := (HB.out.cell (p := ⟨b', off' + k * 2 + 1, none⟩) hlb').trans d1
        have H1 := hide hr
        have H2 := hide hs'
        obtain ⟨x, y⟩ := r
        obtain ⟨u, v⟩ := s
        simp only at c0 c1 d0 d1
        clear hc hc' hr hs' hN hM hlb hlb'
        have hl0 := World.block_lt_of_cell? _ _ c0
        have hl1 := World.block_lt_of_cell? _ _ d0
        have HC := hide (And.intro hl0 hl1)
        clear hl0 hl1
        go_wp2_with fail
        go_region_held3 (fun w' => w'.cell? ⟨b, off + k * 2, none⟩ = some (.int .i64 x) ∧ w'.cell? ⟨b, off + k * 2 + 1, none⟩ = some (.int .i64 y) ∧ w'.cell? ⟨b', off' + k * 2, none⟩ = some (.int .i64 u) ∧ w'.cell? ⟨b', off' + k * 2 + 1, none⟩ = some (.int .i64 v)) (first | go_keep | (refine ⟨?_, ?_, ?_, ?_⟩ <;> assumption))
          (first | (go_at_call 20; refine (sameDir_any (x, y) (u, v) _).mono ?_; rintro e w2 ⟨rfl, hb2⟩; have hb2 := of_drew hb2; have C0 := (hb2.cell (World.block_lt_of_cell? wr _ c0)).trans c0; have C1 := (hb2.cell (World.block_lt_of_cell? wr _ c1)).trans c1; have D0 := (hb2.cell (World.block_lt_of_cell? wr _ d0)).trans d0; have D1 := (hb2.cell (World.block_lt_of_cell? wr _ d1)).trans d1; have HB2 := hide hb2; clear hb2))
        by_cases hsm : ((x, y) : Int × Int) = (u, v)
        · have HX := hide hsm
          rw [show sameD (x, y) (u, v) = true from decide_eq_true hsm]
          clear hsm
          go_wp2_with fail
          go_roundw
          case rel => exact ⟨k + 1, by omega, by go_num, over HB.out HB2.out HB.out.size, take_upD H1.out H2.out HX.out HT.out⟩
          case measure => simp [posOf]; omega
        · have HX : Hid (decide (xs = ys) = false) := decide_eq_false (take_noD H1.out H2.out hsm)
          rw [show sameD (x, y) (u, v) = false from decide_eq_false hsm]
          clear hsm
          go_wp2_with fail
          go_ret
          exact ⟨ret_bool HX.out.symm, over HB.out HB2.out HB.out.size⟩
      · have hki : decide ((k : Int) < (n : Int)) = false := by simp; omega
        go_wp2_with fail
        go_ret
        have hkn : k = n := by omega
        have hT := HT.out
        rw [hkn] at hT
        have e : xs = ys := by
          rw [← List.take_length (l := xs), ← List.take_length (l := ys), HN.out, HM.out, hT]
        exact ⟨ret_bool (decide_eq_true e).symm, HB.out⟩
  · have hne : ((n : Int) != (m : Int)) = true := by simp; omega
    have HF : Hid (decide (xs = ys) = false) := decide_eq_false (len_noD hn hm hl)
    clear h h' hn hm hl
    go_enter Try.func15, Try.ntmps15
    go_wp2_with fail
    go_ret
    exact ⟨ret_bool HF.out.symm, Below.refl _ _⟩
end Go.Proofs.Ytmkbedfccgojpaa
