/- Lemmas and contracts that the law stands on, joined: RCrash2. -/
import Derived.Test.YtjacenhblclkaaaGreatDoorJoin23
import Derived.Test.YtjacenhblclkaaaGreatDoorJoin5
/- The document's own disk: what its Crash does. -/
namespace Go.Proofs.YtjacenhblclkaaaGreatDoor
open Go.RowKit
set_option linter.unusedVariables false

theorem wrapN_i64 (n : Nat) (h : n ≤ 1000000) : IntKind.i64.wrap ((n : Int) + 1) = (n : Int) + 1 := by rw [IntKind.wrap_i64]; omega
theorem wrapN_64 (n : Nat) (h : n ≤ 1000000) : wrap64 ((n : Int) + 1) = (n : Int) + 1 := by unfold wrap64; omega
theorem wrapM_i64 (n : Nat) (h : n ≤ 1000000) : IntKind.i64.wrap (n : Int) = (n : Int) := by rw [IntKind.wrap_i64]; omega
theorem choice_rem {zs : List Int} {t q2 : Nat} {x : Int} (h : t < zs.length) (hx : x = zs.getD t 0) : (if x < 0 then 0 else x).tmod ((q2 : Int) + 1) = ((choiceB zs t (q2 + 1) : Nat) : Int) := by
  unfold choiceB
  rw [← hx]
  by_cases h0 : x < 0
  · rw [if_pos h0, if_pos (.inr h0)]; simp
  · rw [if_neg h0, if_neg (by omega), Int.tmod_eq_emod_of_nonneg (by omega)]
    have := Int.emod_nonneg x (show ((q2 : Int) + 1) ≠ 0 by omega)
    simp
    omega
theorem Only2.cell {y s : Nat} {w w' : World} (h : Only2 y s w w') {b o : Nat} (hb : b < w.heap.size) (h1 : b ≠ y) (h2 : b ≠ s) : w'.cell? ⟨b, o, none⟩ = w.cell? ⟨b, o, none⟩ := World.cell?_of_block (w := w) (h.block b hb h1 h2)
set_option maxRecDepth 100000 in
set_option maxHeartbeats 4000000 in
theorem rcrash_any (zao : Option Addr) (zcap : Nat) (zs : List Int) {w : World} {M : Nat → Prop} {y s cap : Nat} {vss : List (List (List Int))} {left : Int} {gone : Bool} (h : RD w M y s cap vss left gone) (hz : IRow w zao zs) (hne : ∀ b off, zao = some ⟨b, off, none⟩ → b ≠ y ∧ b ≠ s) (hzl : zs.length ≤ 1000) (hbig : ∀ vs ∈ vss, vs.length ≤ 1000000) :
    Calls Tryz.prog 21 #[.pointer (some ⟨y, 0, none⟩), .slice zao zs.length zcap] w fun e w' => e = .returned (.tuple #[]) ∧ RD w' M y s cap (crashed zs vss) (-1) false ∧ Only2 y s w w' := by
  have hmany := h.many
  have hlt1 := h.lt
  have hlt2 : s < w.heap.size := by obtain ⟨cs, h1, _⟩ := h.tab; exact lt_of_block h1
  have H := hide h
  have HZ := hide hz
  have HNE := hide hne
  have HBIG := hide hbig
  clear h hz hne hbig
  go_enter Tryz.func21, Tryz.ntmps21
  go_wp2_with fail
  refine (rloose_any H.out HBIG.out).mono ?_
  rintro e w1 ⟨lo, lc, rfl, hown, hb⟩
  have HB := hide hb
  have HD := hide (H.out.step hb)
  have HOW := hide hown
  have HLE := hide (looseL_le vss)
  have hLb : (looseL vss).length ≤ 200 := Nat.le_trans HLE.out hmany
  obtain ⟨N, hN⟩ : ∃ N, N = (looseL vss).length := ⟨_, rfl⟩
  rw [← hN] at HOW hLb ⊢
  have HNN := hide hN
  clear hown hb hN
  go_wp2_with fail
  go_loopw [5] (fun i wr => ∃ t : Nat, t ≤ N ∧ i = .int .i64 t ∧ RD wr M y s cap (crashUp zs vss t) left gone ∧ Only2 y s w1 wr) (fun i _ => N - (intOf i).toNat)
  case atStart => exact ⟨0, by omega, rfl, by rw [crashUp_zero]; exact HD.out, Only2.refl _ _ _⟩
  case round =>
    obtain ⟨t, ht, rfl, hd, ho⟩ := hrel
    have c0 := hd.c0
    rw [length_crashUp] at c0
    have HD1 := hide hd
    have HO := hide ho
    clear hd ho
    by_cases hlt : t < N
    · have hti : (t : Int) < (N : Int) := by omega
      obtain ⟨q, hq⟩ : ∃ q, (looseL vss)[t]? = some q := ⟨_, List.getElem?_eq_getElem (by rw [← HNN.out]; exact hlt)⟩
      obtain ⟨l1, l2, l3, l4⟩ := looseL_at hq
      obtain ⟨b, o, c, h3, h4, h5, h6⟩ := HD1.out.one (crashUp_at hq)
      have hvl : (verOf vss q.1).length = q.2 + 1 := by omega
      rw [hvl] at h3 h5
      have hvb : (verOf vss q.1).length ≤ 1000000 := by
        obtain ⟨vs, hvs⟩ : ∃ vs, vss[q.1]? = some vs := ⟨_, List.getElem?_eq_getElem l1⟩
        rw [ver_at hvs]; exact HBIG.out vs (List.mem_of_getElem? hvs)
      rw [hvl] at hvb
      have HV := hide (h6 (choiceB zs t (q.2 + 1)) (by rw [hvl]; exact choiceB_lt _ _ _ (by omega)))
      have HQ := hide hq
      have hfz := HD1.out.fzS q.1
      have hkk := choiceB_lt zs t (q.2 + 1) (by omega)
      have hp1 := (pairCells_at (looseL vss) t q hq).1
      have hp2 := (pairCells_at (looseL vss) t q hq).2
      obtain ⟨g, hg, hgs⟩ : ∃ g, lo = some ⟨g, 0, none⟩ ∧ w.heap.size ≤ g := by
        rcases HOW.out.2 with ⟨_, e⟩ | ⟨g, c', cur, hv, hg, _⟩
        · omega
        · simp only [Value.slice.injEq] at hv
          exact ⟨g, hv.1, hg⟩
      subst hg
      have hgl := (HOW.out.lt g rfl).2
      have i1 : wr.cell? ⟨g, t * 2, none⟩ = some (.int .i64 q.1) := (HO.out.cell (o := t * 2) hgl (by omega) (by omega)).trans ((HOW.out.cellAt (t * 2) (by omega)).trans hp1)
      have i2 : wr.cell? ⟨g, t * 2 + 1, none⟩ = some (.int .i64 q.2) := (HO.out.cell (o := t * 2 + 1) hgl (by omega) (by omega)).trans ((HOW.out.cellAt (t * 2 + 1) (by omega)).trans hp2)
      have hqi : (q.1 : Int) < (vss.length : Int) := by omega
      obtain ⟨q1, q2⟩ := q
      simp only at h3 h5 hfz i1 i2 hqi hkk HV hvb
      obtain ⟨kk, hk0⟩ : ∃ kk, kk = choiceB zs t (q2 + 1) := ⟨_, rfl⟩
      rw [← hk0] at hkk HV
      have HKK := hide hk0
      clear l1 l2 l3 l4 h4 h6 hvl hq hp1 hp2 hk0
      have hqb : q2 ≤ 1000000 := by omega
      have hkb : kk ≤ 1000000 := by omega
      have hk1 : kk + 1 ≤ c := by omega
      have hk2 : (kk : Int) + 1 ≤ (c : Int) := by omega
      by_cases hkeep : t < zs.length
      · obtain ⟨zb, zo, hze, hzb, hzc⟩ := HZ.out.2.2 (by omega)
        subst hze
        obtain ⟨hz1, hz2⟩ := HNE.out zb zo rfl
        have z0 := hzc t hkeep
        obtain ⟨x, hx⟩ : ∃ x, x = zs.getD t 0 := ⟨_, rfl⟩
        rw [← hx] at z0
        have hxb := HZ.out.bd t
        rw [← hx] at hxb
        have z1 : wr.cell? ⟨zb, zo + t, none⟩ = some (.int .i64 x) := (HO.out.cell (o := zo + t) (Nat.lt_of_lt_of_le hzb HB.out.size) hz1 hz2).trans ((HB.out.cell (p := ⟨zb, zo + t, none⟩) hzb).trans z0)
        obtain ⟨mx, hmx⟩ : ∃ mx, mx = if x < 0 then 0 else x := ⟨_, rfl⟩
        have HMX := hide hmx
        have HRM : Hid (mx.tmod ((q2 : Int) + 1) = kk) := by
          show _ = _
          rw [HKK.out, hmx]
          exact choice_rem hkeep hx
        have HNZ : Hid (((q2 : Int) + 1 == 0) = false) := by show _ = _; simp; omega
        have hti2 : (t : Int) < (zs.length : Int) := by omega
        obtain ⟨zn, hzn⟩ : ∃ zn, zn = zs.length := ⟨_, rfl⟩
        rw [← hzn] at hti2 ⊢
        have hzt : t < zn := by omega
        clear z0 hzc hmx hx hzn hxb
        go_wp2_with fail
        refine region_of_sched (S := fun w' => w'.cell? ⟨zb, zo + t, none⟩ = some (.int .i64 x) ∧ w'.cell? ⟨g, t * 2 + 1, none⟩ = some (.int .i64 q2)) [(0, true), (1, true), (2, true), (3, true), (4, true), (5, true), (6, true), (7, true), (8, true), (9, true), (10, true), (11, true), (12, true)] (by kernel_rfl) (by kernel_rfl) (by kernel_rfl) (by kernel_rfl) (fun c a d v w h => by cases d <;> exact h) ⟨z1, i2⟩ ?_
        refine sched_move (i := 0) (.slice (some ⟨zb, zo, none⟩) zn zcap) rfl rfl rfl rfl rfl ?_
        simp only [List.set]
        refine sched_move (i := 1) (.int .i64 t) rfl rfl rfl rfl rfl ?_
        simp only [List.set]
        refine sched_take (i := 2) (v := .pointer (some ⟨zb, zo + t, none⟩)) rfl rfl rfl (by intro w hSw; (try dsimp only at hSw); obtain ⟨s1, s2⟩ := hSw; go_simp) ?_
        simp only [List.set]
        refine sched_take (i := 3) (v := .int .i64 x) rfl rfl rfl (by intro w hSw; (try dsimp only at hSw); obtain ⟨s1, s2⟩ := hSw; go_simp) ?_
        simp only [List.set]
        refine sched_take (i := 4) (v := .int .i64 mx) rfl rfl rfl (by intro w hSw; (try dsimp only at hSw); obtain ⟨s1, s2⟩ := hSw; have hmax : ∀ ts t (w : World), (Builtin.max_ ts t #[.int .i64 x, .int .i64 0]).run Tryz.prog w = .ok (.int .i64 mx) w := (fun ts t w => by rw [HMX.out]; exact run_max_int2 ..); go_simp) ?_
        simp only [List.set]
        refine sched_move (i := 5) (.slice (some ⟨g, 0, none⟩) N lc) rfl rfl rfl rfl rfl ?_
        simp only [List.set]
        refine sched_move (i := 6) (.int .i64 t) rfl rfl rfl rfl rfl ?_
        simp only [List.set]
        refine sched_take (i := 7) (v := .pointer (some ⟨g, t * 2, none⟩)) rfl rfl rfl (by intro w hSw; (try dsimp only at hSw); obtain ⟨s1, s2⟩ := hSw; go_simp) ?_
        simp only [List.set]
        refine sched_take (i := 8) (v := .pointer (some ⟨g, t * 2 + 1, none⟩)) rfl rfl rfl (by intro w hSw; (try dsimp only at hSw); obtain ⟨s1, s2⟩ := hSw; go_simp) ?_
        simp only [List.set]
        refine sched_take (i := 9) (v := .int .i64 q2) rfl rfl rfl (by intro w hSw; (try dsimp only at hSw); obtain ⟨s1, s2⟩ := hSw; go_simp) ?_
        simp only [List.set]
        refine sched_take (i := 10) (v := .int .i64 ((q2 : Int) + 1)) rfl rfl rfl (by intro w hSw; (try dsimp only at hSw); obtain ⟨s1, s2⟩ := hSw; have hw1 := wrapN_i64 q2 (by omega); have hw2 := wrapN_64 q2 (by omega); go_simp) ?_
        simp only [List.set]
        refine sched_take (i := 11) (v := .int .i64 kk) rfl rfl rfl (by intro w hSw; (try dsimp only at hSw); obtain ⟨s1, s2⟩ := hSw; have hnz : ((q2 : Int) + 1 == 0) = false := HNZ.out; have hnz2 : ¬ ((q2 : Int) + 1 = 0) := (by omega); have hrm : mx.tmod ((q2 : Int) + 1) = kk := HRM.out; have hwk : IntKind.i64.wrap (kk : Int) = kk := wrapM_i64 kk (by omega); go_simp) ?_
        simp only [List.set]
        refine sched_assign (i := 12) (.int .i64 kk) rfl rfl rfl rfl rfl ?_
        simp only [List.set]
        refine sched_nil ?_
        go_wp2_with fail
        have hP := (HD1.out.step (below_drew (below_drew (Below.refl _ _)))).put (i := q1) (by rw [length_crashUp]; omega) (HV.out.stays (.of_below (below_drew (below_drew (Below.refl _ _)))))
        have hcs := crashUp_succ (zs := zs) HQ.out
        simp only at hcs
        rw [← HKK.out] at hcs
        rw [hcs] at hP
        have HP := hide hP
        clear hP hcs
        refine region_of_sched (S := fun w' => w'.cell? ⟨y, 0, none⟩ = some (.slice (some ⟨s, 0, none⟩) vss.length cap) ∧ w'.cell? ⟨g, t * 2, none⟩ = some (.int .i64 q1)) [(0, true), (1, true), (2, true), (3, true), (4, true), (5, true), (6, true), (7, true), (8, true), (9, true), (10, true), (11, true), (12, true), (13, true), (14, true), (15, true), (16, true), (17, true), (18, true), (20, true), (21, true), (22, true), (19, false), (23, false), (24, true), (25, false)] (by kernel_rfl) (by kernel_rfl) (by kernel_rfl) (by kernel_rfl) (fun c a d v w h => by cases d <;> exact h) ⟨c0, i1⟩ ?_
        refine sched_move (i := 0) (.pointer (some ⟨y, 0, none⟩)) rfl rfl rfl rfl rfl ?_
        simp only [List.set]
        refine sched_take (i := 1) (v := .pointer (some ⟨y, 0, none⟩)) rfl rfl rfl (by intro w hSw; (try dsimp only at hSw); obtain ⟨s1, s2⟩ := hSw; go_simp) ?_
        simp only [List.set]
        refine sched_take (i := 2) (v := .pointer (some ⟨y, 0, none⟩)) rfl rfl rfl (by intro w hSw; (try dsimp only at hSw); obtain ⟨s1, s2⟩ := hSw; go_simp) ?_
        simp only [List.set]
        refine sched_take (i := 3) (v := .slice (some ⟨s, 0, none⟩) vss.length cap) rfl rfl rfl (by intro w hSw; (try dsimp only at hSw); obtain ⟨s1, s2⟩ := hSw; go_simp) ?_
        simp only [List.set]
        refine sched_move (i := 4) (.slice (some ⟨g, 0, none⟩) N lc) rfl rfl rfl rfl rfl ?_
        simp only [List.set]
        refine sched_move (i := 5) (.int .i64 t) rfl rfl rfl rfl rfl ?_
        simp only [List.set]
        refine sched_take (i := 6) (v := .pointer (some ⟨g, t * 2, none⟩)) rfl rfl rfl (by intro w hSw; (try dsimp only at hSw); obtain ⟨s1, s2⟩ := hSw; go_simp) ?_
        simp only [List.set]
        refine sched_take (i := 7) (v := .pointer (some ⟨g, t * 2, none⟩)) rfl rfl rfl (by intro w hSw; (try dsimp only at hSw); obtain ⟨s1, s2⟩ := hSw; go_simp) ?_
        simp only [List.set]
        refine sched_take (i := 8) (v := .int .i64 q1) rfl rfl rfl (by intro w hSw; (try dsimp only at hSw); obtain ⟨s1, s2⟩ := hSw; go_simp) ?_
        simp only [List.set]
        refine sched_move (i := 9) (.pointer (some ⟨y, 0, none⟩)) rfl rfl rfl rfl rfl ?_
        simp only [List.set]
        refine sched_take (i := 10) (v := .pointer (some ⟨y, 0, none⟩)) rfl rfl rfl (by intro w hSw; (try dsimp only at hSw); obtain ⟨s1, s2⟩ := hSw; go_simp) ?_
        simp only [List.set]
        refine sched_take (i := 11) (v := .pointer (some ⟨y, 0, none⟩)) rfl rfl rfl (by intro w hSw; (try dsimp only at hSw); obtain ⟨s1, s2⟩ := hSw; go_simp) ?_
        simp only [List.set]
        refine sched_take (i := 12) (v := .slice (some ⟨s, 0, none⟩) vss.length cap) rfl rfl rfl (by intro w hSw; (try dsimp only at hSw); obtain ⟨s1, s2⟩ := hSw; go_simp) ?_
        simp only [List.set]
        refine sched_move (i := 13) (.slice (some ⟨g, 0, none⟩) N lc) rfl rfl rfl rfl rfl ?_
        simp only [List.set]
        refine sched_move (i := 14) (.int .i64 t) rfl rfl rfl rfl rfl ?_
        simp only [List.set]
        refine sched_take (i := 15) (v := .pointer (some ⟨g, t * 2, none⟩)) rfl rfl rfl (by intro w hSw; (try dsimp only at hSw); obtain ⟨s1, s2⟩ := hSw; go_simp) ?_
        simp only [List.set]
        refine sched_take (i := 16) (v := .pointer (some ⟨g, t * 2, none⟩)) rfl rfl rfl (by intro w hSw; (try dsimp only at hSw); obtain ⟨s1, s2⟩ := hSw; go_simp) ?_
        simp only [List.set]
        refine sched_take (i := 17) (v := .int .i64 q1) rfl rfl rfl (by intro w hSw; (try dsimp only at hSw); obtain ⟨s1, s2⟩ := hSw; go_simp) ?_
        simp only [List.set]
        refine sched_take (i := 18) (v := .pointer (some ⟨s, q1, none⟩)) rfl rfl rfl (by intro w hSw; (try dsimp only at hSw); obtain ⟨s1, s2⟩ := hSw; go_simp) ?_
        simp only [List.set]
        refine sched_move (i := 20) (.int .i64 (kk)) rfl rfl rfl rfl rfl ?_
        simp only [List.set]
        refine sched_move (i := 21) (.int .i64 (kk)) rfl rfl rfl rfl rfl ?_
        simp only [List.set]
        refine sched_take (i := 22) (v := .int .i64 ((kk : Nat) + 1 : Int)) rfl rfl rfl (by intro w hSw; (try dsimp only at hSw); obtain ⟨s1, s2⟩ := hSw; have hw1 := wrapN_i64 (kk) (by omega); have hw2 := wrapN_64 (kk) (by omega); go_simp; try decide) ?_
        simp only [List.set]
        refine sched_op (i := 19) (v := .slice (some ⟨b, o, none⟩) (q2 + 1) c) (w' := wr.drew.drew) rfl rfl rfl (by have h3' : wr.drew.drew.cell? ⟨s, q1, none⟩ = some (.slice (some ⟨b, o, none⟩) (q2 + 1) c) := h3; go_simp) ⟨c0, i1⟩ ?_
        simp only [List.set]
        refine sched_op (i := 23) (v := .slice (some ⟨b, o + kk, none⟩) 1 (c - kk)) (w' := wr.drew.drew) rfl rfl rfl (by have hk3 : (0 : Int) ≤ (kk : Nat) + 1 := (by omega); have hk4 : ¬ c = kk := (by omega); go_simp; try (intro hh; omega)) ⟨c0, i1⟩ ?_
        simp only [List.set]
        refine sched_take (i := 24) (v := .pointer (some ⟨s, q1, none⟩)) rfl rfl rfl (by intro w hSw; (try dsimp only at hSw); obtain ⟨s1, s2⟩ := hSw; go_simp) ?_
        simp only [List.set]
        refine sched_store (i := 25) (w' := wr.drew.drew.setCell ⟨s, q1, none⟩ (.slice (some ⟨b, o + kk, none⟩) 1 (c - kk))) rfl rfl rfl (by have h3' : wr.drew.drew.cell? ⟨s, q1, none⟩ = some (.slice (some ⟨b, o, none⟩) (q2 + 1) c) := h3; have hfz' : wr.drew.drew.frozen? ⟨s, q1, none⟩ = false := hfz; go_simp) ?_ ?_
        · exact ⟨by rw [World.cell?_of_block (w := wr.drew.drew) (Below.heap_setCell _ _ _ _ (show y ≠ s from HD1.out.ne))]; exact c0, by rw [World.cell?_of_block (w := wr.drew.drew) (Below.heap_setCell _ _ _ _ (show g ≠ s by omega))]; exact i1⟩
        refine sched_nil ?_
        go_wp2_with fail
        go_roundw
        case rel => exact ⟨t + 1, by omega, by go_num, HP.out, (HO.out.trans (.of_below (below_drew (below_drew (Below.refl _ _))))).setS q1 _⟩
        case measure => simp [intOf]; omega
      · have hkz : kk = 0 := by rw [HKK.out]; unfold choiceB; rw [if_pos (.inl (by omega))]
        have hki : decide ((t : Int) < (zs.length : Int)) = false := by simp; omega
        subst hkz
        go_wp2_with fail
        have hP := (HD1.out.step (below_drew (Below.refl _ _))).put (i := q1) (by rw [length_crashUp]; omega) (HV.out.stays (.of_below (below_drew (Below.refl _ _))))
        have hcs := crashUp_succ (zs := zs) HQ.out
        simp only at hcs
        rw [← HKK.out] at hcs
        rw [hcs] at hP
        have HP := hide hP
        clear hP hcs
        refine region_of_sched (S := fun w' => w'.cell? ⟨y, 0, none⟩ = some (.slice (some ⟨s, 0, none⟩) vss.length cap) ∧ w'.cell? ⟨g, t * 2, none⟩ = some (.int .i64 q1)) [(0, true), (1, true), (2, true), (3, true), (4, true), (5, true), (6, true), (7, true), (8, true), (9, true), (10, true), (11, true), (12, true), (13, true), (14, true), (15, true), (16, true), (17, true), (18, true), (20, true), (21, true), (22, true), (19, false), (23, false), (24, true), (25, false)] (by kernel_rfl) (by kernel_rfl) (by kernel_rfl) (by kernel_rfl) (fun c a d v w h => by cases d <;> exact h) ⟨c0, i1⟩ ?_
        refine sched_move (i := 0) (.pointer (some ⟨y, 0, none⟩)) rfl rfl rfl rfl rfl ?_
        simp only [List.set]
        refine sched_take (i := 1) (v := .pointer (some ⟨y, 0, none⟩)) rfl rfl rfl (by intro w hSw; (try dsimp only at hSw); obtain ⟨s1, s2⟩ := hSw; go_simp) ?_
        simp only [List.set]
        refine sched_take (i := 2) (v := .pointer (some ⟨y, 0, none⟩)) rfl rfl rfl (by intro w hSw; (try dsimp only at hSw); obtain ⟨s1, s2⟩ := hSw; go_simp) ?_
        simp only [List.set]
        refine sched_take (i := 3) (v := .slice (some ⟨s, 0, none⟩) vss.length cap) rfl rfl rfl (by intro w hSw; (try dsimp only at hSw); obtain ⟨s1, s2⟩ := hSw; go_simp) ?_
        simp only [List.set]
        refine sched_move (i := 4) (.slice (some ⟨g, 0, none⟩) N lc) rfl rfl rfl rfl rfl ?_
        simp only [List.set]
        refine sched_move (i := 5) (.int .i64 t) rfl rfl rfl rfl rfl ?_
        simp only [List.set]
        refine sched_take (i := 6) (v := .pointer (some ⟨g, t * 2, none⟩)) rfl rfl rfl (by intro w hSw; (try dsimp only at hSw); obtain ⟨s1, s2⟩ := hSw; go_simp) ?_
        simp only [List.set]
        refine sched_take (i := 7) (v := .pointer (some ⟨g, t * 2, none⟩)) rfl rfl rfl (by intro w hSw; (try dsimp only at hSw); obtain ⟨s1, s2⟩ := hSw; go_simp) ?_
        simp only [List.set]
        refine sched_take (i := 8) (v := .int .i64 q1) rfl rfl rfl (by intro w hSw; (try dsimp only at hSw); obtain ⟨s1, s2⟩ := hSw; go_simp) ?_
        simp only [List.set]
        refine sched_move (i := 9) (.pointer (some ⟨y, 0, none⟩)) rfl rfl rfl rfl rfl ?_
        simp only [List.set]
        refine sched_take (i := 10) (v := .pointer (some ⟨y, 0, none⟩)) rfl rfl rfl (by intro w hSw; (try dsimp only at hSw); obtain ⟨s1, s2⟩ := hSw; go_simp) ?_
        simp only [List.set]
        refine sched_take (i := 11) (v := .pointer (some ⟨y, 0, none⟩)) rfl rfl rfl (by intro w hSw; (try dsimp only at hSw); obtain ⟨s1, s2⟩ := hSw; go_simp) ?_
        simp only [List.set]
        refine sched_take (i := 12) (v := .slice (some ⟨s, 0, none⟩) vss.length cap) rfl rfl rfl (by intro w hSw; (try dsimp only at hSw); obtain ⟨s1, s2⟩ := hSw; go_simp) ?_
        simp only [List.set]
        refine sched_move (i := 13) (.slice (some ⟨g, 0, none⟩) N lc) rfl rfl rfl rfl rfl ?_
        simp only [List.set]
        refine sched_move (i := 14) (.int .i64 t) rfl rfl rfl rfl rfl ?_
        simp only [List.set]
        refine sched_take (i := 15) (v := .pointer (some ⟨g, t * 2, none⟩)) rfl rfl rfl (by intro w hSw; (try dsimp only at hSw); obtain ⟨s1, s2⟩ := hSw; go_simp) ?_
        simp only [List.set]
        refine sched_take (i := 16) (v := .pointer (some ⟨g, t * 2, none⟩)) rfl rfl rfl (by intro w hSw; (try dsimp only at hSw); obtain ⟨s1, s2⟩ := hSw; go_simp) ?_
        simp only [List.set]
        refine sched_take (i := 17) (v := .int .i64 q1) rfl rfl rfl (by intro w hSw; (try dsimp only at hSw); obtain ⟨s1, s2⟩ := hSw; go_simp) ?_
        simp only [List.set]
        refine sched_take (i := 18) (v := .pointer (some ⟨s, q1, none⟩)) rfl rfl rfl (by intro w hSw; (try dsimp only at hSw); obtain ⟨s1, s2⟩ := hSw; go_simp) ?_
        simp only [List.set]
        refine sched_move (i := 20) (.int .i64 (0)) rfl rfl rfl rfl rfl ?_
        simp only [List.set]
        refine sched_move (i := 21) (.int .i64 (0)) rfl rfl rfl rfl rfl ?_
        simp only [List.set]
        refine sched_take (i := 22) (v := .int .i64 ((0 : Nat) + 1 : Int)) rfl rfl rfl (by intro w hSw; (try dsimp only at hSw); obtain ⟨s1, s2⟩ := hSw; have hw1 := wrapN_i64 (0) (by omega); have hw2 := wrapN_64 (0) (by omega); go_simp; try decide) ?_
        simp only [List.set]
        refine sched_op (i := 19) (v := .slice (some ⟨b, o, none⟩) (q2 + 1) c) (w' := wr.drew) rfl rfl rfl (by have h3' : wr.drew.cell? ⟨s, q1, none⟩ = some (.slice (some ⟨b, o, none⟩) (q2 + 1) c) := h3; go_simp) ⟨c0, i1⟩ ?_
        simp only [List.set]
        refine sched_op (i := 23) (v := .slice (some ⟨b, o + 0, none⟩) 1 (c - 0)) (w' := wr.drew) rfl rfl rfl (by have hk3 : (0 : Int) ≤ (0 : Nat) + 1 := (by omega); have hk4 : ¬ c = 0 := (by omega); go_simp; try (intro hh; omega)) ⟨c0, i1⟩ ?_
        simp only [List.set]
        refine sched_take (i := 24) (v := .pointer (some ⟨s, q1, none⟩)) rfl rfl rfl (by intro w hSw; (try dsimp only at hSw); obtain ⟨s1, s2⟩ := hSw; go_simp) ?_
        simp only [List.set]
        refine sched_store (i := 25) (w' := wr.drew.setCell ⟨s, q1, none⟩ (.slice (some ⟨b, o + 0, none⟩) 1 (c - 0))) rfl rfl rfl (by have h3' : wr.drew.cell? ⟨s, q1, none⟩ = some (.slice (some ⟨b, o, none⟩) (q2 + 1) c) := h3; have hfz' : wr.drew.frozen? ⟨s, q1, none⟩ = false := hfz; go_simp) ?_ ?_
        · exact ⟨by rw [World.cell?_of_block (w := wr.drew) (Below.heap_setCell _ _ _ _ (show y ≠ s from HD1.out.ne))]; exact c0, by rw [World.cell?_of_block (w := wr.drew) (Below.heap_setCell _ _ _ _ (show g ≠ s by omega))]; exact i1⟩
        refine sched_nil ?_
        go_wp2_with fail
        go_roundw
        case rel => exact ⟨t + 1, by omega, by go_num, HP.out, (HO.out.trans (.of_below (below_drew (Below.refl _ _)))).setS q1 _⟩
        case measure => simp [intOf]; omega
    · have hki : decide ((t : Int) < (N : Int)) = false := by simp; omega
      have hk' : t = N := by omega
      have y1 := HD1.out.c1
      have y2 := HD1.out.c2
      have f1 := HD1.out.fz 1
      have f2 := HD1.out.fz 2
      go_wp2_with fail
      go_end0
      refine ⟨rfl, ?_, ?_⟩
      · have := (HD1.out.set 2 (.bool false) (left' := left) (gone' := false) rfl).set 1 (.int .i64 (-1)) (left' := -1) (gone' := false) rfl
        rw [hk', HNN.out, crashUp_all] at this
        exact this
      · exact (((Only2.of_below HB.out).trans HO.out).setY 2 _).setY 1 _
end Go.Proofs.YtjacenhblclkaaaGreatDoor
