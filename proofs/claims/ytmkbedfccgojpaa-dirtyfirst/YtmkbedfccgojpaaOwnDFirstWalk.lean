
/- What the statement DirtyFirst asks comes out true, at every list of numbers and number; nothing that was there is written. -/
import Derived.Test.YtmkbedfccgojpaaJoin16
import Derived.Test.YtmkbedfccgojpaaJoin6
namespace Go.Proofs.Ytmkbedfccgojpaa.dirtyFirst
open Go.RowKit
set_option linter.unusedVariables false

theorem enters17 : Enters Try.prog 17 := enters Try.func17 (by kernel_rfl) (by kernel_rfl)
/-- An operation that is not wanted. -/
theorem sched_no {P : Program} {ops : Array Oper} {Q : Exit → Act → World → Prop} {S : World → Prop} {i : Nat} {r : List (Nat × Bool)} {t : List Value} {ds : List Deferred} {w : World} {o : Oper} {d : Tmp} (ho : ops[i]? = some o) (hd : o.dst = some d) (hw : Region.wanted o (yielded ops t.toArray) = false) (hr : Sched P ops Q S r (Act.mk (t.set d undef).toArray ds) w) : Sched P ops Q S ((i, true) :: r) (Act.mk t.toArray ds) w :=
  ⟨o, undef, ho, .inr ⟨hw, rfl⟩, by rw [hd]; simpa [Act.put] using hr⟩
/-- Each record's number is one of the run's. -/
def Bd (es : List (Int × Int)) : Prop := ∀ e ∈ es, 1 ≤ e.2 ∧ e.2 ≤ 2000
theorem bd_add {es : List (Int × Int)} (h : Bd es) (p f : Int) (h1 : 1 ≤ f) (h2 : f ≤ 2000) : Bd (addE p f es) := by
  intro e he
  unfold addE at he
  split at he
  · exact h e he
  · rcases mem_ins he with rfl | he
    · exact ⟨h1, h2⟩
    · exact h e he
theorem val_addE (es : List (Int × Int)) (p f : Int) : hasE (addE p f es) p = true ∧ (valE (addE p f es) p).getD 0 = if hasE es p = true then (valE es p).getD 0 else f := by
  have h := val_add es p f p
  rw [if_pos rfl] at h
  unfold hasE
  cases hv : valE es p with
  | none => rw [hv] at h; rw [h]; simp
  | some v => rw [hv] at h; rw [h]; simp
theorem rem_drop {es : List (Int × Int)} (hu : Up es) {k : Nat} {e : Int × Int} (he : es[k]? = some e) : hasE (es.drop k) e.1 = true ∧ remE e.1 (es.drop k) = es.drop (k + 1) ∧ hasE (es.drop (k + 1)) e.1 = false := by
  have hk := (List.getElem?_eq_some_iff.1 he).1
  have hd : es.drop k = e :: es.drop (k + 1) := by
    rw [List.drop_eq_getElem_cons hk]
    congr 1
    rw [List.getElem?_eq_getElem hk] at he
    simpa using he
  have hu' : Up (es.drop k) := List.Pairwise.sublist (List.drop_sublist ..) hu
  rw [hd] at hu' ⊢
  have hu2 := List.pairwise_cons.1 hu'
  have hno : hasE (es.drop (k + 1)) e.1 = false := hasE_false.2 fun x hx => by have := hu2.1 x hx; omega
  refine ⟨hasE_true (List.mem_cons_self ..) rfl, ?_, hno⟩
  show (e :: es.drop (k + 1)).filter _ = _
  rw [List.filter_cons, if_neg (by simp)]
  exact rem_of_not hno
set_option maxRecDepth 100000 in
set_option maxHeartbeats 16000000 in
theorem walk (a0 : Option Addr) (len0 cap0 : Nat) (z0 : List Int) (a1 : Int) (w : World) (w0 : IsRow .i64 w a0 len0 cap0 z0) (w1 : (Lit.int .i64 a1).wf = true) :
    Calls Try.prog 4 #[.slice a0 len0 cap0, .int .i64 a1] w fun e w' => e = .returned (.bool true) ∧ Below w.heap.size w w' := by
  have HROW := hide w0.nums
  clear w0 w1
  go_enter Try.func4, Try.ntmps4
  go_wp2_with fail
  refine (dtfirst_any _).mono ?_
  rintro e x1 ⟨rfl, hb⟩
  have HB := hide hb
  clear hb
  by_cases hlen : len0 ≤ 30
  case neg =>
    have hl1 : (30 : Int) < (len0 : Int) := by omega
    go_wp2_with fail
    go_ret
    exact ⟨rfl, HB.out⟩
  have hl1 : decide ((30 : Int) < (len0 : Int)) = false := by simp; omega
  have HT := hide (tab_new x1)
  have HB1 := hide (over HB.out (below_box x1 (.cells #[.map none] 26)) HB.out.size)
  obtain ⟨T, hT⟩ : ∃ T, T = x1.heap.size := ⟨_, rfl⟩
  have HTL : Hid (w.heap.size ≤ T) := by show _ ≤ _; rw [hT]; exact HB.out.size
  go_upto_region 7 with fail
  rw [← hT] at HT ⊢
  obtain ⟨Y, hY⟩ : ∃ Y, Y = x1.alloc (.cells #[.map none] 26) := ⟨_, rfl⟩
  rw [← hY] at HT HB1 ⊢
  clear hY hT HB
  go_wp2_with fail
  refine (number_any _ _ _ (by omega) (by omega)).mono ?_
  rintro e y1 ⟨rfl, rfl⟩
  obtain ⟨F, hF⟩ : ∃ F, F = numberB a1 1000 := ⟨_, rfl⟩
  have hF1 := numberB_bd a1 1000 (by omega)
  rw [← hF] at hF1 ⊢
  clear hF
  go_wp2_with fail
  go_loopw [7] (fun i wr => ∃ (k : Nat) (mb : Option Nat) (es : List (Int × Int)), k ≤ len0 ∧ i = .int .i64 k ∧ TabAt wr T 0 mb k es ∧ es.length ≤ k ∧ (es = [] → k = 0) ∧ Bd es ∧ (∀ b, mb = some b → w.heap.size ≤ b) ∧ Below w.heap.size w wr) (fun i _ => len0 - posOf i)
  case atStart => exact ⟨0, none, [], by omega, rfl, HT.out, by simp, fun _ => rfl, fun e he => by simp at he, fun b e => by simp at e, HB1.out⟩
  case round =>
    clear HT HB1
    obtain ⟨k, mb, es, hk, rfl, ht, hl, h0, hbd, hmb, hb⟩ := hrel
    have HT := hide ht
    have HL := hide hl
    have H0 := hide h0
    have HBD := hide hbd
    have HM := hide hmb
    have HB := hide hb
    clear ht hl hmb hb h0 hbd
    by_cases hlt : k < len0
    · have hki : (k : Int) < (len0 : Int) := by omega
      obtain ⟨b, off, rfl, hbl, hc⟩ := HROW.out.1 (by omega)
      have k1 := (HB.out.cell (p := ⟨b, off + k, none⟩) hbl).trans (hc k hlt)
      obtain ⟨z, hz⟩ : ∃ z, z = z0.getD k 0 := ⟨_, rfl⟩
      rw [← hz] at k1
      clear hc hz hbl
      have hn := numberB_bd z 9 (by omega)
      go_wp2_with fail
      refine (number_any _ _ _ (by omega) (by omega)).mono ?_
      rintro e y1 ⟨rfl, rfl⟩
      obtain ⟨p, hp⟩ : ∃ p, p = numberB z 9 := ⟨_, rfl⟩
      rw [← hp] at hn ⊢
      have HPW : Hid ((Lit.int .i64 p).wf = true) := wf_small (by omega) (by omega)
      clear hp k1
      go_wp2_with fail
      refine (tfrom_any HT.out p HPW.out).mono ?_
      rintro e y2 ⟨rfl, hb⟩
      have HT1 := hide (HT.out.step hb)
      have HB1 := hide (over HB.out hb HB.out.size)
      clear hb HT HB
      go_wp2_with fail
      refine (tadd_any HT1.out (by omega) p (F + 1 + k) HPW.out (wf_small (by omega) (by omega))).mono ?_
      rintro e y3 ⟨rfl, hbut, mb', ht, hmb'⟩
      have HT2 := hide ht
      have HB2 := hide (HB1.out.trans (hbut.below HTL.out HM.out HB1.out.size))
      have HM2 : Hid (∀ b, mb' = some b → w.heap.size ≤ b) := (fun b e => by
        rcases hmb' with h1 | ⟨b', h1, h2⟩
        · exact HM.out b (h1.symm.trans e)
        · rw [h1] at e; simp at e; have := HB1.out.size; omega)
      have HUP := hide HT1.out.up
      clear hbut ht hmb' HT1 HB1
      go_wp2_with fail
      refine (tfrom_any HT2.out p HPW.out).mono ?_
      rintro e y4 ⟨rfl, hb⟩
      have HT3 := hide (HT2.out.step hb)
      have HB3 := hide (over HB2.out hb HB2.out.size)
      clear hb HT2 HB2
      obtain ⟨v1, v2⟩ := val_addE es p (F + 1 + k)
      rw [v1, v2]
      clear v1 v2
      have HBD2 := hide (bd_add HBD.out p (F + 1 + k) (by omega) (by omega))
      have HL2 : Hid ((addE p (F + 1 + k) es).length ≤ k + 1) := by show _ ≤ _; have := len_add es HUP.out p (F + 1 + k); have := HL.out; omega
      have H02 : Hid (addE p (F + 1 + k) es = [] → k + 1 = 0) := fun h => by
        exfalso
        unfold addE at h
        split at h
        · rename_i h1; rw [h] at h1; simp [hasE, valE] at h1
        · exact ins_ne _ _ _ h
      cases hh : hasE es p with
      | true =>
        rw [if_pos rfl]
        obtain ⟨V, hV⟩ : ∃ V, V = (valE es p).getD 0 := ⟨_, rfl⟩
        rw [← hV]
        clear hV hh
        go_wp2_with fail
        go_roundw
        case rel => exact ⟨k + 1, mb', _, by omega, by go_num, HT3.out, HL2.out, H02.out, HBD2.out, HM2.out, HB3.out⟩
        case measure => simp [posOf]; omega
      | false =>
        rw [if_neg (by simp)]
        obtain ⟨V, hV⟩ : ∃ V, V = (valE es p).getD 0 := ⟨_, rfl⟩
        rw [← hV]
        clear hV hh
        go_wp2_with fail
        go_roundw
        case rel => exact ⟨k + 1, mb', _, by omega, by go_num, HT3.out, HL2.out, H02.out, HBD2.out, HM2.out, HB3.out⟩
        case measure => simp [posOf]; omega
    · have hki : decide ((k : Int) < (len0 : Int)) = false := by simp; omega
      have hk2 : k = len0 := by omega
      subst hk2
      go_wp2_with fail
      refine (all_any HT.out (by have := HL.out; omega)).mono ?_
      rintro e x2 ⟨ao, c, rfl, ho, hb⟩
      obtain ⟨B, hB⟩ : ∃ B, B = wr.heap.size := ⟨_, rfl⟩
      have HTB : Hid (T < B) := by show _ < _; rw [hB]; exact HT.out.lt
      have HMB : Hid (∀ b, mb = some b → b < B) := fun b e => by rw [hB]; exact (HT.out.own b e).lt
      rw [← hB] at ho
      have HO := hide ho
      have HT2 := hide (HT.out.step hb)
      have HB2 := hide (over HB.out hb HB.out.size)
      have HU := hide HT.out.up
      obtain ⟨n, hn⟩ : ∃ n, n = es.length := ⟨_, rfl⟩
      have HN := hide hn
      have hn30 : n ≤ k := by rw [hn]; exact HL.out
      have HZ : Hid (n = 0 → k = 0) := fun h => H0.out (List.length_eq_zero_iff.1 (hn.symm.trans h))
      rw [← hn]
      clear ho hb hn hB HB HT HL H0 HROW
      go_wp2_with fail
      go_loopw [14] (fun i wr' => ∃ j : Nat, j ≤ n ∧ i = .int .i64 j ∧ Below x2.heap.size x2 wr') (fun i _ => n - posOf i)
      case atStart => exact ⟨0, by omega, rfl, Below.refl _ _⟩
      case round =>
        obtain ⟨j, hj, rfl, hb⟩ := hrel
        have HBJ := hide hb
        have HOJ := hide (HO.out.below hb (Nat.le_refl _))
        have HTJ := hide (HT2.out.step hb)
        clear hb
        by_cases hjn : j < n
        · have hji : (j : Int) < (n : Int) := by omega
          obtain ⟨e, he⟩ : ∃ e, es[j]? = some e := ⟨es[j]'(by rw [← HN.out]; exact hjn), List.getElem?_eq_getElem _⟩
          obtain ⟨b, off, rfl, hbl, hc⟩ := HOJ.out.row.2 (by rw [← HN.out]; omega)
          obtain ⟨c0, c1⟩ := hc j e he
          have hle : decide (e.2 < leastE es) = false := by have := leastE_le (List.mem_of_getElem? he); simp; omega
          obtain ⟨m, hm⟩ : ∃ m, m = leastE es := ⟨_, rfl⟩
          rw [← hm] at hle
          have HMM := hide hm
          clear hm
          by_cases hj0 : j = 0
          · subst hj0
            clear c0
            have hl := tleast_any HTJ.out.drew
            rw [← HMM.out] at hl
            go_wp2_with fail
            refine region_of_sched (S := fun w' => w'.cell? ⟨b, off + 0 * 2 + 1, none⟩ = some (.int .i64 e.2)) [(0, true), (1, true), (2, true), (3, true), (4, true), (5, true), (6, true), (7, true), (8, true), (9, true), (10, true), (11, true), (12, true), (13, true), (14, true), (15, true), (16, true), (17, true), (18, true), (19, true), (20, true), (21, true), (22, false), (23, true), (24, true)] (by kernel_rfl) (by kernel_rfl) (by kernel_rfl) (by kernel_rfl) (fun c a d v w h => by cases d <;> exact h) c1 ?_
            refine sched_move (i := 0) (.int .i64 (0 : Nat)) rfl rfl rfl rfl rfl ?_
            simp only [List.set]
            refine sched_take (i := 1) (v := .bool false) rfl rfl rfl (by intro w hSw; (try dsimp only at hSw); have s1 := hSw; go_simp) ?_
            simp only [List.set]
            refine sched_move (i := 2) (.bool false) rfl rfl rfl rfl rfl ?_
            simp only [List.set]
            refine sched_no (i := 3) rfl rfl rfl ?_
            simp only [List.set]
            refine sched_no (i := 4) rfl rfl rfl ?_
            simp only [List.set]
            refine sched_no (i := 5) rfl rfl rfl ?_
            simp only [List.set]
            refine sched_no (i := 6) rfl rfl rfl ?_
            simp only [List.set]
            refine sched_no (i := 7) rfl rfl rfl ?_
            simp only [List.set]
            refine sched_no (i := 8) rfl rfl rfl ?_
            simp only [List.set]
            refine sched_no (i := 9) rfl rfl rfl ?_
            simp only [List.set]
            refine sched_no (i := 10) rfl rfl rfl ?_
            simp only [List.set]
            refine sched_no (i := 11) rfl rfl rfl ?_
            simp only [List.set]
            refine sched_no (i := 12) rfl rfl rfl ?_
            simp only [List.set]
            refine sched_no (i := 13) rfl rfl rfl ?_
            simp only [List.set]
            refine sched_no (i := 14) rfl rfl rfl ?_
            simp only [List.set]
            refine sched_pick (i := 15) false (.bool false) rfl rfl rfl rfl rfl rfl ?_
            simp only [List.set]
            refine sched_move (i := 16) (.bool false) rfl rfl rfl rfl rfl ?_
            simp only [List.set]
            refine sched_move (i := 17) (.slice (some ⟨b, off, none⟩) n c) rfl rfl rfl rfl rfl ?_
            simp only [List.set]
            refine sched_move (i := 18) (.int .i64 (0 : Nat)) rfl rfl rfl rfl rfl ?_
            simp only [List.set]
            refine sched_take (i := 19) (v := .pointer (some ⟨b, off + 0 * 2, none⟩)) rfl rfl rfl (by intro w hSw; (try dsimp only at hSw); have s1 := hSw; go_simp) ?_
            simp only [List.set]
            refine sched_take (i := 20) (v := .pointer (some ⟨b, off + 0 * 2 + 1, none⟩)) rfl rfl rfl (by intro w hSw; (try dsimp only at hSw); have s1 := hSw; go_simp) ?_
            simp only [List.set]
            refine sched_take (i := 21) (v := .int .i64 e.2) rfl rfl rfl (by intro w hSw; (try dsimp only at hSw); have s1 := hSw; go_simp) ?_
            simp only [List.set]
            refine sched_call (i := 22) rfl rfl rfl rfl enters17 (hl.mono ?_)
            rintro e9 w9 ⟨rfl, hb9⟩
            have hb9 := of_drew hb9
            refine ⟨_, rfl, (hb9.cell (World.block_lt_of_cell? wr _ c1)).trans c1, ?_⟩
            have HB9 := hide hb9
            clear hb9
            simp only [List.set]
            refine sched_take (i := 23) (v := .bool false) rfl rfl rfl (by intro w hSw; (try dsimp only at hSw); have s1 := hSw; go_simp) ?_
            simp only [List.set]
            refine sched_pick (i := 24) false (.bool false) rfl rfl rfl rfl rfl rfl ?_
            simp only [List.set]
            refine sched_nil ?_
            go_wp2_with fail
            go_roundw
            case rel => exact ⟨1, by omega, by go_num, over HBJ.out HB9.out HBJ.out.size⟩
            case measure => simp [posOf]; omega
          · have hj1 : decide ((0 : Int) < (j : Int)) = true := by simp; omega
            obtain ⟨e', he'⟩ : ∃ e', es[j - 1]? = some e' := ⟨es[j - 1]'(by rw [← HN.out]; omega), List.getElem?_eq_getElem _⟩
            obtain ⟨d0, d1⟩ := hc (j - 1) e' he'
            have hup : e'.1 < e.1 := by
              have h1 := (List.getElem?_eq_some_iff.1 he).1
              have := List.pairwise_iff_getElem.1 HU.out (j - 1) j (by omega) h1 (by omega)
              rw [List.getElem?_eq_getElem h1] at he
              rw [List.getElem?_eq_getElem (by omega)] at he'
              simp only [Option.some.injEq] at he he'
              rw [← he, ← he']; exact this
            have hle2 : decide (e.1 ≤ e'.1) = false := by simp; omega
            have hwr : IntKind.i64.wrap ((j : Int) - 1) = ((j - 1 : Nat) : Int) := by
              rw [IntKind.wrap_i64]; omega
            have hl := tleast_any HTJ.out.drew
            rw [← HMM.out] at hl
            go_wp2_with fail
            refine region_of_sched (S := fun w' => w'.cell? ⟨b, off + j * 2, none⟩ = some (.int .i64 e.1) ∧ w'.cell? ⟨b, off + j * 2 + 1, none⟩ = some (.int .i64 e.2) ∧ w'.cell? ⟨b, off + (j - 1) * 2, none⟩ = some (.int .i64 e'.1)) [(0, true), (1, true), (2, true), (3, true), (4, true), (5, true), (6, true), (7, true), (8, true), (9, true), (10, true), (11, true), (12, true), (13, true), (14, true), (15, true), (16, true), (17, true), (18, true), (19, true), (20, true), (21, true), (22, false), (23, true), (24, true)] (by kernel_rfl) (by kernel_rfl) (by kernel_rfl) (by kernel_rfl) (fun c a d v w h => by cases d <;> exact h) ⟨c0, c1, d0⟩ ?_
            refine sched_move (i := 0) (.int .i64 j) rfl rfl rfl rfl rfl ?_
            simp only [List.set]
            refine sched_take (i := 1) (v := .bool true) rfl rfl rfl (by intro w hSw; (try dsimp only at hSw); obtain ⟨s1, s2, s3⟩ := hSw; go_simp; omega) ?_
            simp only [List.set]
            refine sched_move (i := 2) (.bool true) rfl rfl rfl rfl rfl ?_
            simp only [List.set]
            refine sched_move (i := 3) (.slice (some ⟨b, off, none⟩) n c) rfl rfl rfl rfl rfl ?_
            simp only [List.set]
            refine sched_move (i := 4) (.int .i64 j) rfl rfl rfl rfl rfl ?_
            simp only [List.set]
            refine sched_take (i := 5) (v := .pointer (some ⟨b, off + j * 2, none⟩)) rfl rfl rfl (by intro w hSw; (try dsimp only at hSw); obtain ⟨s1, s2, s3⟩ := hSw; go_simp) ?_
            simp only [List.set]
            refine sched_take (i := 6) (v := .pointer (some ⟨b, off + j * 2, none⟩)) rfl rfl rfl (by intro w hSw; (try dsimp only at hSw); obtain ⟨s1, s2, s3⟩ := hSw; go_simp) ?_
            simp only [List.set]
            refine sched_take (i := 7) (v := .int .i64 e.1) rfl rfl rfl (by intro w hSw; (try dsimp only at hSw); obtain ⟨s1, s2, s3⟩ := hSw; go_simp) ?_
            simp only [List.set]
            refine sched_move (i := 8) (.slice (some ⟨b, off, none⟩) n c) rfl rfl rfl rfl rfl ?_
            simp only [List.set]
            refine sched_move (i := 9) (.int .i64 j) rfl rfl rfl rfl rfl ?_
            simp only [List.set]
            refine sched_take (i := 10) (v := .int .i64 ((j - 1 : Nat) : Int)) rfl rfl rfl (by intro w hSw; (try dsimp only at hSw); obtain ⟨s1, s2, s3⟩ := hSw; go_simp) ?_
            simp only [List.set]
            refine sched_take (i := 11) (v := .pointer (some ⟨b, off + (j - 1) * 2, none⟩)) rfl rfl rfl (by intro w hSw; (try dsimp only at hSw); obtain ⟨s1, s2, s3⟩ := hSw; go_simp; intro hh; omega) ?_
            simp only [List.set]
            refine sched_take (i := 12) (v := .pointer (some ⟨b, off + (j - 1) * 2, none⟩)) rfl rfl rfl (by intro w hSw; (try dsimp only at hSw); obtain ⟨s1, s2, s3⟩ := hSw; go_simp) ?_
            simp only [List.set]
            refine sched_take (i := 13) (v := Value.int .i64 e'.1) rfl rfl rfl (by intro w hSw; (try dsimp only at hSw); obtain ⟨s1, s2, s3⟩ := hSw; go_simp) ?_
            simp only [List.set]
            refine sched_take (i := 14) (v := .bool false) rfl rfl rfl (by intro w hSw; (try dsimp only at hSw); obtain ⟨s1, s2, s3⟩ := hSw; go_simp) ?_
            simp only [List.set]
            refine sched_pick (i := 15) true (.bool false) rfl rfl rfl rfl rfl rfl ?_
            simp only [List.set]
            refine sched_move (i := 16) (.bool false) rfl rfl rfl rfl rfl ?_
            simp only [List.set]
            refine sched_move (i := 17) (.slice (some ⟨b, off, none⟩) n c) rfl rfl rfl rfl rfl ?_
            simp only [List.set]
            refine sched_move (i := 18) (.int .i64 j) rfl rfl rfl rfl rfl ?_
            simp only [List.set]
            refine sched_take (i := 19) (v := .pointer (some ⟨b, off + j * 2, none⟩)) rfl rfl rfl (by intro w hSw; (try dsimp only at hSw); obtain ⟨s1, s2, s3⟩ := hSw; go_simp) ?_
            simp only [List.set]
            refine sched_take (i := 20) (v := .pointer (some ⟨b, off + j * 2 + 1, none⟩)) rfl rfl rfl (by intro w hSw; (try dsimp only at hSw); obtain ⟨s1, s2, s3⟩ := hSw; go_simp) ?_
            simp only [List.set]
            refine sched_take (i := 21) (v := .int .i64 e.2) rfl rfl rfl (by intro w hSw; (try dsimp only at hSw); obtain ⟨s1, s2, s3⟩ := hSw; go_simp) ?_
            simp only [List.set]
            refine sched_call (i := 22) rfl rfl rfl rfl enters17 (hl.mono ?_)
            rintro e9 w9 ⟨rfl, hb9⟩
            have hb9 := of_drew hb9
            refine ⟨_, rfl, ⟨(hb9.cell (World.block_lt_of_cell? wr _ c0)).trans c0, (hb9.cell (World.block_lt_of_cell? wr _ c1)).trans c1, (hb9.cell (World.block_lt_of_cell? wr _ d0)).trans d0⟩, ?_⟩
            have HB9 := hide hb9
            clear hb9
            simp only [List.set]
            refine sched_take (i := 23) (v := .bool false) rfl rfl rfl (by intro w hSw; (try dsimp only at hSw); obtain ⟨s1, s2, s3⟩ := hSw; go_simp) ?_
            simp only [List.set]
            refine sched_pick (i := 24) false (.bool false) rfl rfl rfl rfl rfl rfl ?_
            simp only [List.set]
            refine sched_nil ?_
            go_wp2_with fail
            go_roundw
            case rel => exact ⟨j + 1, by omega, by go_num, over HBJ.out HB9.out HBJ.out.size⟩
            case measure => simp [posOf]; omega
        · have hji : decide ((j : Int) < (n : Int)) = false := by simp; omega
          go_wp2_with fail
          go_loopw [15] (fun i wr' => ∃ j : Nat, j ≤ n ∧ i = .int .i64 j ∧ TabAt wr' T 0 mb k (es.drop j) ∧ OwnD wr' B ao c es ∧ Below w.heap.size w wr') (fun i _ => n - posOf i)
          case atStart => exact ⟨0, by omega, rfl, HTJ.out, HOJ.out, over HB2.out HBJ.out HB2.out.size⟩
          case round =>
            clear HTJ HOJ HBJ HT2 HO HB2 hji hjn hj
            obtain ⟨j, hj, rfl, ht, ho, hb⟩ := hrel
            have HT := hide ht
            have HO := hide ho
            have HB := hide hb
            clear ht ho hb
            by_cases hjn : j < n
            · have hji : (j : Int) < (n : Int) := by omega
              obtain ⟨e, he⟩ : ∃ e, es[j]? = some e := ⟨es[j]'(by rw [← HN.out]; exact hjn), List.getElem?_eq_getElem _⟩
              obtain ⟨h1, h2, h3⟩ := rem_drop HU.out he
              have hwf : (Lit.int .i64 e.1).wf = true := HT.out.wf_key (List.mem_of_getElem? (i := 0) (by rw [List.getElem?_drop]; exact he))
              obtain ⟨b, off, rfl, hbl, hc⟩ := HO.out.row.2 (by rw [← HN.out]; omega)
              have d1 := tdrop_any HT.out e.1 hwf
              rw [h1, h2] at d1
              obtain ⟨c0, _⟩ := hc j e he
              have HE := hide he
              clear hc he hbl h1 h2
              go_wp2_with fail
              refine d1.mono ?_
              rintro e6 x6 ⟨rfl, hbut, ht⟩
              have HT6 := hide ht
              have HO6 := hide (HO.out.of_blocks fun g h1 h2 => hbut.block g h2 (by have := HTB.out; omega) (fun e => by have := HMB.out g e.symm; omega))
              have HB6 := hide (HB.out.trans (hbut.below HTL.out HM.out HB.out.size))
              obtain ⟨b6, off6, e6', _, hc6⟩ := HO6.out.row.2 (by rw [← HN.out]; omega)
              simp only [Option.some.injEq, Addr.mk.injEq] at e6'
              obtain ⟨rfl, rfl, _⟩ := e6'
              have c0' := (hc6 j e HE.out).1
              clear hc6
              have d2 := tdrop_any HT6.out e.1 hwf
              rw [h3, rem_of_not h3] at d2
              clear hbut ht HT HO HB hwf h3 d1
              go_wp2_with fail
              refine d2.mono ?_
              rintro e7 x7 ⟨rfl, hbut, ht⟩
              have HT7 := hide ht
              have HO7 := hide (HO6.out.of_blocks fun g h1 h2 => hbut.block g h2 (by have := HTB.out; omega) (fun e => by have := HMB.out g e.symm; omega))
              have HB7 := hide (HB6.out.trans (hbut.below HTL.out HM.out HB6.out.size))
              clear hbut ht HT6 HO6 HB6 d2
              go_wp2_with fail
              go_roundw
              case rel => exact ⟨j + 1, by omega, by go_num, HT7.out, HO7.out, HB7.out⟩
              case measure => simp [posOf]; omega
            · have hji : decide ((j : Int) < (n : Int)) = false := by simp; omega
              have hd : es.drop j = [] := List.drop_eq_nil_of_le (by rw [← HN.out]; omega)
              rw [hd] at HT
              have hall := all_any HT.out (by simp)
              simp only [List.length_nil] at hall
              by_cases hn0 : n = 0
              · subst hn0
                have hk0 : k = 0 := HZ.out rfl
                subst hk0
                clear hjn
                go_wp2_with (first
                  | (go_at_call 16; refine hall.mono ?_; rintro e8 x8 ⟨ao8, c8, rfl, ho, hb⟩; have HT8 := hide (HT.out.step hb); have HB8 := hide (over HB.out hb HB.out.size); clear ho hb)
                  | (go_at_call 17; refine (tleast_any HT8.out).mono ?_; rintro e9 x9 ⟨rfl, hb⟩; rw [show leastE [] = 0 from rfl]; have HB9 := hide (over HB8.out hb HB8.out.size); clear hb))
                go_ret
                exact ⟨rfl, HB9.out⟩
              · have hk0 : ¬ k = 0 := by omega
                obtain ⟨b, off, rfl, hbl, hc⟩ := HO.out.row.2 (by rw [← HN.out]; omega)
                obtain ⟨e, he⟩ : ∃ e, es[0]? = some e := ⟨es[0]'(by rw [← HN.out]; omega), List.getElem?_eq_getElem _⟩
                obtain ⟨c0, c1⟩ := hc 0 e he
                have hp := (HBD.out e (List.mem_of_getElem? he)).1
                have hni : ((n : Int) == 0) = false := by simp; omega
                have hki2 : ((k : Int) == 0) = false := by simp; omega
                obtain ⟨x, y⟩ := e
                simp only [Nat.zero_mul, Nat.add_zero] at c0 c1 hp
                clear hc he
                go_wp2_with (first
                  | (go_at_call 16; refine hall.mono ?_; rintro e8 x8 ⟨ao8, c8, rfl, ho, hb⟩; have HT8 := hide (HT.out.step hb); have HB8 := hide (over HB.out hb HB.out.size); have C0 := (hb.cell (World.block_lt_of_cell? _ _ c0)).trans c0; have C1 := (hb.cell (World.block_lt_of_cell? _ _ c1)).trans c1; clear ho hb)
                  | (go_at_call 17; refine (tleast_any HT8.out).mono ?_; rintro e9 x9 ⟨rfl, hb⟩; rw [show leastE [] = 0 from rfl]; have HB9 := hide (over HB8.out hb HB8.out.size); have D0 := (hb.cell (World.block_lt_of_cell? _ _ C0)).trans C0; have D1 := (hb.cell (World.block_lt_of_cell? _ _ C1)).trans C1; clear hb))
                go_ret
                exact ⟨rfl, HB9.out⟩
end Go.Proofs.Ytmkbedfccgojpaa.dirtyFirst
