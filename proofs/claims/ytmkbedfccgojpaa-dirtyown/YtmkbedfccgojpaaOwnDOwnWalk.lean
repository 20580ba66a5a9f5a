
/- What the statement DirtyOwn asks comes out true, at every list of numbers; nothing that was there is written. -/
import Derived.Test.YtmkbedfccgojpaaJoin16
namespace Go.Proofs.Ytmkbedfccgojpaa.dirtyOwn
open Go.RowKit
set_option linter.unusedVariables false

/-- Where a list of our own lies. -/
theorem own_block {w x y : World} {ao : Option Addr} {c : Nat} {es : List (Int × Int)} (h : OwnD x w.heap.size ao c es) (hb : Below w.heap.size w x) (hb' : Below x.heap.size x y) :
    ∃ G, w.heap.size ≤ G ∧ (0 < es.length → ao = some ⟨G, 0, none⟩ ∧ G < x.heap.size ∧ ∃ cur e, y.heap[G]? = some (.cells cur e (0, 0)) ∧ 2 * es.length ≤ cur.size) := by
  rcases h.1.2 with ⟨h1, h2⟩ | ⟨g, cap, cur, h1, h2, h3, h4, h5, h6, h7⟩
  · exact ⟨w.heap.size, Nat.le_refl _, fun hp => by omega⟩
  · simp only [Value.slice.injEq] at h1
    obtain ⟨rfl, _, _⟩ := h1
    have hlt := lt_of_block h3
    exact ⟨g, h2, fun _ => ⟨rfl, hlt, cur, _, (hb'.block g hlt).trans h3, by omega⟩⟩
theorem was_row {x y z : World} {G : Nat} {bo : Option Addr} {d : Nat} {es : List (Int × Int)} (h : OwnD y x.heap.size bo d es) (hb : But2 G none y z) (hG : 0 < es.length → G < x.heap.size) : DirRow z bo es := by
  by_cases hp : 0 < es.length
  · have hg := hG hp
    exact (h.of_blocks fun g h1 h2 => hb.block g h2 (by omega) (by simp)).row
  · exact ⟨h.2, fun h0 => absurd h0 hp⟩
set_option maxRecDepth 100000 in
set_option maxHeartbeats 8000000 in
theorem walk (a0 : Option Addr) (len0 cap0 : Nat) (z0 : List Int) (w : World) (w0 : IsRow .i64 w a0 len0 cap0 z0) :
    Calls Try.prog 6 #[.slice a0 len0 cap0] w fun e w' => e = .returned (.bool true) ∧ Below w.heap.size w w' := by
  have HROW := hide w0.nums
  clear w0
  go_enter Try.func6, Try.ntmps6
  go_wp2_with fail
  refine (dtfirst_any _).mono ?_
  rintro e x1 ⟨rfl, hb⟩
  have HB := hide hb
  clear hb
  by_cases hlen : len0 ≤ 20
  case neg =>
    have hl1 : (20 : Int) < (len0 : Int) := by omega
    go_wp2_with fail
    go_ret
    exact ⟨rfl, HB.out⟩
  have hl1 : decide ((20 : Int) < (len0 : Int)) = false := by simp; omega
  have HT := hide (tab_new x1)
  have HB1 := hide (over HB.out (below_box x1 (.cells #[.map none] 26)) HB.out.size)
  obtain ⟨T, hT⟩ : ∃ T, T = x1.heap.size := ⟨_, rfl⟩
  have HTL : Hid (w.heap.size ≤ T) := by show _ ≤ _; rw [hT]; exact HB.out.size
  go_upto_region 7 with fail
  rw [← hT] at HT ⊢
  obtain ⟨Y, hY⟩ : ∃ Y, Y = x1.alloc (.cells #[.map none] 26) := ⟨_, rfl⟩
  rw [← hY] at HT HB1 ⊢
  clear hY hT HB
  go_wp2_with fail
  go_loopw [5] (fun i wr => ∃ (k : Nat) (mb : Option Nat) (es : List (Int × Int)), k ≤ len0 ∧ i = .int .i64 k ∧ TabAt wr T 0 mb k es ∧ es.length ≤ k ∧ (∀ b, mb = some b → w.heap.size ≤ b) ∧ Below w.heap.size w wr) (fun i _ => len0 - posOf i)
  case atStart => exact ⟨0, none, [], by omega, rfl, HT.out, by simp, fun b e => by simp at e, HB1.out⟩
  case round =>
    clear HT HB1
    obtain ⟨k, mb, es, hk, rfl, ht, hl, hmb, hb⟩ := hrel
    have HT := hide ht
    have HL := hide hl
    have HM := hide hmb
    have HB := hide hb
    clear ht hl hmb hb
    by_cases hlt : k < len0
    · have hki : (k : Int) < (len0 : Int) := by omega
      obtain ⟨b, off, rfl, hbl, hc⟩ := HROW.out.1 (by omega)
      have k1 := (HB.out.cell (p := ⟨b, off + k, none⟩) hbl).trans (hc k hlt)
      obtain ⟨z, hz⟩ : ∃ z, z = z0.getD k 0 := ⟨_, rfl⟩
      rw [← hz] at k1
      clear hc hz hbl
      have hn := numberB_bd z 12 (by omega)
      have hwp := tadd_any HT.out (by omega) (numberB z 12) ((k : Int) + 1) (wf_small (by omega) (by omega)) (wf_small (by omega) (by omega))
      go_wp2_with (first
        | (go_at_call 8; refine (number_any _ _ _ (by omega) (by omega)).mono ?_; rintro e y1 ⟨rfl, rfl⟩)
        | (go_at_call 11; refine hwp.mono ?_; rintro e y2 ⟨rfl, hbut, mb', ht, hmb'⟩; have HT2 := hide ht; have HB2 := hide (HB.out.trans (hbut.below HTL.out HM.out HB.out.size)); have HM2 : Hid (∀ b, mb' = some b → w.heap.size ≤ b) := (fun b e => by rcases hmb' with h1 | ⟨b', h1, h2⟩; exact HM.out b (h1.symm.trans e); rw [h1] at e; simp at e; have := HB.out.size; omega); clear hbut ht hmb'))
      go_roundw
      case rel => exact ⟨k + 1, mb', _, by omega, by go_num, HT2.out, by have := len_add es HT.out.up (numberB z 12) ((k : Int) + 1); have := HL.out; omega, HM2.out, HB2.out⟩
      case measure => simp [posOf]; omega
    · have hki : decide ((k : Int) < (len0 : Int)) = false := by simp; omega
      have hes : es.length ≤ 20 := by have := HL.out; omega
      have HES := hide hes
      clear hes HL
      go_wp2_with fail
      refine (all_any HT.out (by have := HES.out; omega)).mono ?_
      rintro e x2 ⟨ao, c, rfl, ho, hb⟩
      have HO := hide ho
      have HBX := hide hb
      clear ho hb
      go_wp2_with fail
      refine (copyD_any ao es.length c es _ HO.out.row rfl).mono ?_
      rintro e x3 ⟨bo, d, rfl, ho, hb⟩
      have HW := hide ho
      have HBY := hide hb
      have HG := hide (own_block HO.out HBX.out HBY.out)
      clear ho hb HO
      obtain ⟨G, hG, hg⟩ := HG.out
      have HG1 := hide hG
      have HG2 := hide hg
      have HT3 := hide ((HT.out.step HBX.out).step HBY.out)
      have HTW := hide HT.out.lt
      have HMW : Hid (∀ b, mb = some b → b < wr.heap.size) := fun b e => (HT.out.own b e).lt
      have HB3 := hide (over (over HB.out HBX.out HB.out.size) HBY.out (Nat.le_trans HB.out.size HBX.out.size))
      clear hG hg HG HT
      obtain ⟨n, hn⟩ : ∃ n, n = es.length := ⟨_, rfl⟩
      rw [← hn] at HG2 ⊢
      have HNN := hide hn
      have hn20 : n ≤ 20 := by rw [hn]; exact HES.out
      clear hn HROW
      go_wp2_with fail
      go_loopw [8] (fun i wr' => ∃ j : Nat, j ≤ n ∧ i = .int .i64 j ∧ But2 G none x3 wr' ∧ (0 < n → ∃ cur e, wr'.heap[G]? = some (.cells cur e (0, 0)) ∧ 2 * n ≤ cur.size)) (fun i _ => n - posOf i)
      case atStart => exact ⟨0, by omega, rfl, But2.refl _ _ _, fun hp => (HG2.out hp).2.2⟩
      case round =>
        obtain ⟨j, hj, rfl, hbut, hcur⟩ := hrel
        have HBU := hide hbut
        have HC := hide hcur
        clear hbut hcur
        by_cases hlt : j < n
        · have hji : (j : Int) < (n : Int) := by omega
          obtain ⟨rfl, _, _⟩ := HG2.out (by omega)
          obtain ⟨cur, ty, hcur, hsz⟩ := HC.out (by omega)
          have e0 : cur[j * 2]? = some (cur[j * 2]'(by omega)) := Array.getElem?_eq_getElem _
          have e1 : cur[j * 2 + 1]? = some (cur[j * 2 + 1]'(by omega)) := Array.getElem?_eq_getElem _
          generalize cur[j * 2]'(by omega) = u0 at e0
          generalize cur[j * 2 + 1]'(by omega) = u1 at e1
          have c0 : wr.cell? ⟨G, j * 2, none⟩ = some u0 := (cell_row hcur _).trans e0
          have f0 : wr.frozen? ⟨G, j * 2, none⟩ = false := by simp [World.frozen?, hcur]
          have c1 : (wr.setCell ⟨G, j * 2, none⟩ (.int .i64 99)).cell? ⟨G, j * 2 + 1, none⟩ = some u1 := (cell_row (set_block hcur _ _) _).trans (by rw [Array.getElem?_setIfInBounds_ne (by omega)]; exact e1)
          have f1 : (wr.setCell ⟨G, j * 2, none⟩ (.int .i64 99)).frozen? ⟨G, j * 2 + 1, none⟩ = false := by simp [World.frozen?, set_block hcur]
          have HC2 : Hid (∃ cur e, ((wr.setCell ⟨G, j * 2, none⟩ (.int .i64 99)).setCell ⟨G, j * 2 + 1, none⟩ (.int .i64 (-7))).heap[G]? = some (.cells cur e (0, 0)) ∧ 2 * n ≤ cur.size) := ⟨_, _, set_block (set_block hcur _ _) _ _, by simpa using hsz⟩
          clear hcur hsz e0 e1
          go_wp2_with fail
          go_roundw
          case rel => exact ⟨j + 1, by omega, by go_num, (HBU.out.setT _ _).setT _ _, fun _ => HC2.out⟩
          case measure => simp [posOf]; omega
        · have hji : decide ((j : Int) < (n : Int)) = false := by simp; omega
          have HT4 : Hid (TabAt wr T 0 mb k es) := HT3.out.of_blocks (HBU.out.block T (by have := HB3.out.size; have := HTW.out; have := HBX.out.size; have := HBY.out.size; omega) (by have := HTW.out; have := HG1.out; omega) (by simp)) fun b e => HBU.out.block b (by have := HMW.out b e; have := HBX.out.size; have := HBY.out.size; omega) (by have := HMW.out b e; have := HG1.out; omega) (by simp)
          have HB4 : Hid (Below w.heap.size w wr) := HB3.out.trans (HBU.out.below (Nat.le_trans HB.out.size HG1.out) (fun b e => by simp at e) HB3.out.size)
          have HW4 : Hid (DirRow wr bo es) := was_row HW.out HBU.out (fun hp => (HG2.out (by rw [HNN.out]; exact hp)).2.1)
          have hall := all_any HT4.out (by have := HES.out; omega)
          rw [← HNN.out] at hall
          go_wp2_with (first
            | (go_at_call 16; refine hall.mono ?_; rintro e x5 ⟨ao', c', rfl, ho, hb⟩; have HW5 := hide (HW4.out.step hb); have HO5 := hide ho.row; have HB5 := hide (over HB4.out hb HB4.out.size); clear ho hb; have hsame := sameDirs_any ao' n c' es bo n d es _ HO5.out HW5.out HNN.out.symm HNN.out.symm; rw [show decide (es = es) = true from decide_eq_true rfl] at hsame)
            | (go_at_call 15; refine hsame.mono ?_; rintro e x6 ⟨rfl, hb⟩; have HB6 := hide (over HB5.out hb HB5.out.size); clear hb))
          go_ret
          exact ⟨rfl, HB6.out⟩
end Go.Proofs.Ytmkbedfccgojpaa.dirtyOwn
