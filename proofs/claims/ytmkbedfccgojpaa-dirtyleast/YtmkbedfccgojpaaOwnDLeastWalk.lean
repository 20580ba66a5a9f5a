
/- What the statement DirtyLeast asks comes out true, at every list of numbers and page; nothing that was there is written. -/
import Derived.Test.YtmkbedfccgojpaaJoin16
namespace Go.Proofs.Ytmkbedfccgojpaa.dirtyLeast
open Go.RowKit
set_option linter.unusedVariables false

/-- Where the least was seen last, of the first k. -/
def seenL (es : List (Int × Int)) (k : Nat) (x : Int) : Prop :=
  (x = -1 ∧ ∀ (i : Nat) (e : Int × Int), i < k → es[i]? = some e → e.2 ≠ leastE es) ∨ ∃ (j : Nat) (e : Int × Int), x = (j : Int) ∧ j < k ∧ es[j]? = some e
theorem seen_no {es : List (Int × Int)} {k : Nat} {x : Int} {e : Int × Int} (h : seenL es k x) (he : es[k]? = some e) (hne : e.2 ≠ leastE es) : seenL es (k + 1) x := by
  rcases h with ⟨h1, h2⟩ | ⟨j, e', h1, h2, h3⟩
  · refine .inl ⟨h1, fun i e' hi he' => ?_⟩
    by_cases hik : i = k
    · subst hik; rw [he] at he'; cases he'; exact hne
    · exact h2 i e' (by omega) he'
  · exact .inr ⟨j, e', h1, by omega, h3⟩
theorem seen_end {es : List (Int × Int)} {k : Nat} {x : Int} (h : seenL es k x) (hk : k = es.length) (hp : 0 < k) : ∃ (j : Nat) (e : Int × Int), x = (j : Int) ∧ j < k ∧ es[j]? = some e := by
  rcases h with ⟨h1, h2⟩ | h
  · obtain ⟨e, he, h3⟩ := leastE_at (es := es) (by intro h0; subst h0; simp at hk; omega)
    obtain ⟨i, hi⟩ := List.getElem?_of_mem he
    have := (List.getElem?_eq_some_iff.1 hi).1
    exact absurd h3 (h2 i e (by omega) hi)
  · exact h
set_option maxRecDepth 100000 in
set_option maxHeartbeats 8000000 in
theorem walk (a0 : Option Addr) (len0 cap0 : Nat) (z0 : List Int) (a1 : Int) (w : World) (w0 : IsRow .i64 w a0 len0 cap0 z0) (w1 : (Lit.int .i64 a1).wf = true) :
    Calls Try.prog 5 #[.slice a0 len0 cap0, .int .i64 a1] w fun e w' => e = .returned (.bool true) ∧ Below w.heap.size w w' := by
  have HROW := hide w0.nums
  have HW1 := hide w1
  clear w0 w1
  go_enter Try.func5, Try.ntmps5
  go_wp2_with fail
  refine (dtfirst_any _).mono ?_
  rintro e x1 ⟨rfl, hb⟩
  have HB := hide hb
  clear hb
  by_cases hlen : len0 ≤ 20
  case neg =>
    have hl1 : (20 : Int) < (len0 : Int) := by omega
    go_wp2_with fail
    go_ret
    exact ⟨rfl, HB.out⟩
  have hl1 : decide ((20 : Int) < (len0 : Int)) = false := by simp; omega
  have HT := hide (tab_new x1)
  have HB1 := hide (over HB.out (below_box x1 (.cells #[.map none] 26)) HB.out.size)
  obtain ⟨T, hT⟩ : ∃ T, T = x1.heap.size := ⟨_, rfl⟩
  have HTL : Hid (w.heap.size ≤ T) := by show _ ≤ _; rw [hT]; exact HB.out.size
  go_upto_region 7 with fail
  rw [← hT] at HT ⊢
  obtain ⟨Y, hY⟩ : ∃ Y, Y = x1.alloc (.cells #[.map none] 26) := ⟨_, rfl⟩
  rw [← hY] at HT HB1 ⊢
  clear hY hT HB
  go_wp2_with fail
  go_loopw [7] (fun i wr => ∃ (k : Nat) (mb : Option Nat) (es : List (Int × Int)), k ≤ len0 ∧ i = .int .i64 k ∧ TabAt wr T 0 mb k es ∧ es.length ≤ k ∧ (∀ b, mb = some b → w.heap.size ≤ b) ∧ Below w.heap.size w wr) (fun i _ => len0 - posOf i)
  case atStart => exact ⟨0, none, [], by omega, rfl, HT.out, by simp, fun b e => by simp at e, HB1.out⟩
  case round =>
    clear HT HB1
    obtain ⟨k, mb, es, hk, rfl, ht, hl, hmb, hb⟩ := hrel
    have HT := hide ht
    have HL := hide hl
    have HM := hide hmb
    have HB := hide hb
    clear ht hl hmb hb
    by_cases hlt : k < len0
    · have hki : (k : Int) < (len0 : Int) := by omega
      obtain ⟨b, off, rfl, hbl, hc⟩ := HROW.out.1 (by omega)
      have k1 := (HB.out.cell (p := ⟨b, off + k, none⟩) hbl).trans (hc k hlt)
      obtain ⟨z, hz⟩ : ∃ z, z = z0.getD k 0 := ⟨_, rfl⟩
      rw [← hz] at k1
      clear hc hz hbl
      have hn := numberB_bd z 1000 (by omega)
      have hwp := tadd_any HT.out (by omega) ((k : Int) + 1) (numberB z 1000 + 1) (wf_small (by omega) (by omega)) (wf_small (by omega) (by omega))
      go_wp2_with (first
        | (go_at_call 8; refine (number_any _ _ _ (by omega) (by omega)).mono ?_; rintro e y1 ⟨rfl, rfl⟩)
        | (go_at_call 11; refine hwp.mono ?_; rintro e y2 ⟨rfl, hbut, mb', ht, hmb'⟩; have HT2 := hide ht; have HB2 := hide (HB.out.trans (hbut.below HTL.out HM.out HB.out.size)); have HM2 : Hid (∀ b, mb' = some b → w.heap.size ≤ b) := (fun b e => by rcases hmb' with h1 | ⟨b', h1, h2⟩; exact HM.out b (h1.symm.trans e); rw [h1] at e; simp at e; have := HB.out.size; omega); clear hbut ht hmb'))
      go_roundw
      case rel => exact ⟨k + 1, mb', _, by omega, by go_num, HT2.out, by have := len_add es HT.out.up ((k : Int) + 1) (numberB z 1000 + 1); have := HL.out; omega, HM2.out, HB2.out⟩
      case measure => simp [posOf]; omega
    · have hki : decide ((k : Int) < (len0 : Int)) = false := by simp; omega
      go_wp2_with fail
      refine (tdrop_any HT.out a1 HW1.out).mono ?_
      rintro e x2 ⟨rfl, hbut, ht⟩
      have HT2 := hide ht
      have HB2 := hide (HB.out.trans (hbut.below HTL.out HM.out HB.out.size))
      have hl2 : (remE a1 es).length ≤ 20 := Nat.le_trans (len_rem_le es a1) (by have := HL.out; omega)
      have HL2 := hide hl2
      clear hbut ht HT HB HL hl2 HROW HW1
      obtain ⟨fs, hfs⟩ : ∃ fs, fs = remE a1 es := ⟨_, rfl⟩
      rw [← hfs] at HT2 HL2
      clear hfs
      go_wp2_with fail
      refine (all_any HT2.out (by have := HL2.out; omega)).mono ?_
      rintro e x3 ⟨ao, c, rfl, ho, hb⟩
      have HT3 := hide (HT2.out.step hb)
      have HB3 := hide (over HB2.out hb HB2.out.size)
      clear ho hb HT2 HB2
      obtain ⟨n0, hn0⟩ : ∃ n0, n0 = fs.length := ⟨_, rfl⟩
      have HN0 := hide hn0
      have hn20 : n0 ≤ 20 := by rw [hn0]; exact HL2.out
      rw [← hn0]
      clear hn0 HL2
      go_wp2_with fail
      go_loopw [8] (fun i wr' => ∃ (n : Nat) (gs : List (Int × Int)), n ≤ 20 ∧ i = .int .i64 n ∧ gs.length = n ∧ TabAt wr' T 0 mb k gs ∧ Below w.heap.size w wr') (fun i _ => posOf i)
      case atStart => exact ⟨n0, fs, hn20, rfl, HN0.out.symm, HT3.out, HB3.out⟩
      case round =>
        clear HT3 HB3 HN0 hn20
        obtain ⟨n, gs, hn, rfl, hgn, ht, hb⟩ := hrel
        have HT := hide ht
        have HB := hide hb
        have HN := hide hgn
        clear ht hb hgn
        by_cases hp : 0 < n
        · have hpi : (0 : Int) < (n : Int) := by omega
          have hall := all_any HT.out (by rw [HN.out]; omega)
          rw [HN.out] at hall
          go_wp2_with fail
          refine hall.mono ?_
          rintro e x4 ⟨ao2, c2, rfl, ho, hb⟩
          have HO := hide ho.row
          have HT4 := hide (HT.out.step hb)
          have HB4 := hide (over HB.out hb HB.out.size)
          clear ho hb hall HT HB
          go_wp2_with fail
          refine (tleast_any HT4.out).mono ?_
          rintro e x5 ⟨rfl, hb⟩
          have HO5 := hide (HO.out.step hb)
          have HT5 := hide (HT4.out.step hb)
          have HB5 := hide (over HB4.out hb HB4.out.size)
          clear hb HO HT4 HB4
          obtain ⟨m, hm⟩ : ∃ m, m = leastE gs := ⟨_, rfl⟩
          have HMM := hide hm
          rw [← hm]
          clear hm
          go_wp2_with fail
          go_loopw [11, 12] (fun at' i wr' => ∃ (j : Nat) (x : Int), j ≤ n ∧ i = .int .i64 j ∧ at' = .int .i64 x ∧ seenL gs j x ∧ wr' = x5) (fun _ i _ => n - posOf i)
          case atStart => exact ⟨0, -1, by omega, rfl, rfl, .inl ⟨rfl, fun i e hi => by omega⟩, rfl⟩
          case round =>
            obtain ⟨j, x, hj, rfl, rfl, hseen, rfl⟩ := hrel
            have HS := hide hseen
            clear hseen
            by_cases hjn : j < n
            · have hji : (j : Int) < (n : Int) := by omega
              obtain ⟨e, he⟩ : ∃ e, gs[j]? = some e := ⟨gs[j]'(by rw [HN.out]; exact hjn), List.getElem?_eq_getElem _⟩
              obtain ⟨b, off, rfl, hbl, hc⟩ := HO5.out.2 (by rw [HN.out]; omega)
              obtain ⟨c0, c1⟩ := hc j e he
              have hle : decide (e.2 < m) = false := by have := leastE_le (List.mem_of_getElem? he); rw [← HMM.out] at this; simp; omega
              have HE := hide he
              clear hc he hbl c0
              by_cases hem : e.2 = m
              · have HS2 : Hid (seenL gs (j + 1) j) := .inr ⟨j, e, rfl, by omega, HE.out⟩
                have he1 : (e.2 == m) = true := by simpa using hem
                clear hem
                go_wp2_with fail
                go_roundw
                case rel => exact ⟨j + 1, j, by omega, by go_num, rfl, HS2.out, trivial⟩
                case measure => simp [posOf]; omega
              · have HS2 : Hid (seenL gs (j + 1) x) := seen_no HS.out HE.out (by rw [← HMM.out]; exact hem)
                have he1 : (e.2 == m) = false := by simpa using hem
                clear hem
                go_wp2_with fail
                go_roundw
                case rel => exact ⟨j + 1, x, by omega, by go_num, rfl, HS2.out, trivial⟩
                case measure => simp [posOf]; omega
            · have hji : decide ((j : Int) < (n : Int)) = false := by simp; omega
              have hjn' : j = n := by omega
              subst hjn'
              obtain ⟨i, e, rfl, hi, he⟩ := seen_end HS.out HN.out.symm hp
              obtain ⟨b, off, rfl, hbl, hc⟩ := HO5.out.2 (by rw [HN.out]; omega)
              obtain ⟨c0, c1⟩ := hc i e he
              have hwf := HT5.out.wf_key (List.mem_of_getElem? he)
              have hdrop := tdrop_any HT5.out e.1 hwf
              have hhas : hasE gs e.1 = true := hasE_true (List.mem_of_getElem? he) rfl
              rw [hhas] at hdrop
              have hlr := len_rem gs HT5.out.up e.1
              rw [hhas, if_pos rfl, HN.out] at hlr
              have HLR : Hid ((remE e.1 gs).length = j - 1) := by show _ = _; omega
              have hi0 : decide ((i : Int) < 0) = false := by simp
              have hij : (i : Int) < (j : Int) := by omega
              have hnn : ((j : Int) != (j : Int)) = false := by simp
              clear hc c1 hbl he hhas hwf hlr hji
              go_wp2_with (first | (go_at_call 9; refine hdrop.mono ?_; rintro e x6 ⟨rfl, hbut, ht⟩; have HT6 := hide ht; have HB6 := hide (HB5.out.trans (hbut.below HTL.out HM.out HB5.out.size)); clear hbut ht))
              go_roundw
              case rel => exact ⟨j - 1, _, by omega, by go_num, HLR.out, HT6.out, HB6.out⟩
              case measure => simp [posOf]; omega
        · have hpi : decide ((0 : Int) < (n : Int)) = false := by simp; omega
          have hn0 : n = 0 := by omega
          subst hn0
          have hg : gs = [] := List.length_eq_zero_iff.1 HN.out
          subst hg
          go_wp2_with (first | (go_at_call 17; refine (tleast_any HT.out).mono ?_; rintro e x7 ⟨rfl, hb⟩; rw [show leastE [] = 0 from rfl]; have HB7 := hide (over HB.out hb HB.out.size); clear hb))
          go_ret
          exact ⟨rfl, HB7.out⟩
end Go.Proofs.Ytmkbedfccgojpaa.dirtyLeast
