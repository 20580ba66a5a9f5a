
/- What a disk's Loose answers, and which version of a sector a crash keeps. -/
import Derived.Test.YtedmgdiimfenaaaDoorSyncs
import Derived.Test.YtedmgdiimfenaaaDoorLooseMath
namespace Go.Proofs.YtedmgdiimfenaaaDoor
open Go.RowKit
set_option linter.unusedVariables false

theorem Tryd.info46 : (Tryd.prog.info? 46).map (fun i => (i.zero, i.size, i.bytes)) = some (some (.agg #[.int .i64 0, .int .i64 0]), 2, 16) := by kernel_rfl
/-- Pairs as cells. -/
def pairCells (l : List (Nat × Nat)) : List Value := l.flatMap fun q => [.int .i64 q.1, .int .i64 q.2]
theorem length_pairCells (l : List (Nat × Nat)) : (pairCells l).length = l.length * 2 := by
  induction l with
  | nil => rfl
  | cons q l ih => simp only [pairCells, List.flatMap_cons, List.length_append, List.length_cons, List.length_nil] at ih ⊢; omega
theorem pairCells_snoc (l : List (Nat × Nat)) (q : Nat × Nat) : pairCells (l ++ [q]) = pairCells l ++ [.int .i64 q.1, .int .i64 q.2] := by simp [pairCells]
theorem pairCells_at : ∀ (l : List (Nat × Nat)) (t : Nat) (q : Nat × Nat), l[t]? = some q → (pairCells l)[t * 2]? = some (.int .i64 q.1) ∧ (pairCells l)[t * 2 + 1]? = some (.int .i64 q.2) := by
  intro l
  induction l with
  | nil => intro t q h; simp at h
  | cons p l ih =>
    intro t q h
    cases t with
    | zero => simp at h; subst h; simp [pairCells]
    | succ t =>
      have h1 := ih t q (by simpa using h)
      simp only [pairCells, List.flatMap_cons] at h1 ⊢
      rw [show (t + 1) * 2 = t * 2 + 2 by omega, show t * 2 + 2 + 1 = (t * 2 + 1) + 2 by omega]
      simpa using h1
theorem own_shape_any {w : World} {B e sz n : Nat} {v : Value} {cs : List Value} (h : w.ownsRow B e sz v n cs) : ∃ ao cap, v = .slice ao n cap := by
  rcases h.2 with ⟨h1, h2⟩ | ⟨g, cap, cur, h1, _⟩
  · exact ⟨none, 0, by rw [h1, h2]⟩
  · exact ⟨_, cap, h1⟩
theorem cell_two_new (w : World) (x y : Value) (e : TypeId) : ∀ j u, [x, y][j]? = some u → (w.alloc (.cells #[x, y] e)).cell? ((⟨w.heap.size, 0, none⟩ : Addr).add j) = some u := by
  intro j u hj
  rw [Addr.add_lit, cell_row (heap_alloc_new w (.cells #[x, y] e))]
  simpa using hj
theorem verOf_vers {ss : List Sec} {i : Nat} {x : Sec} (h : ss[i]? = some x) : verOf (vers ss) i = x.vs.map (·.xs) := vers_at h

set_option maxHeartbeats 1000000 in
theorem looses_any (d : Nat) {w : World} {K : Nat → Prop} {a : Nat → Addr} {vss : List (List (List Int))} {off : Bool} {fuse : Int} (h : Disk w K a d vss off fuse) :
    Calls Tryd.prog 18 #[.pointer (some ⟨d, 0, none⟩)] w fun e w' => ∃ ao c, e = .returned (.slice ao (looseL vss).length c) ∧ w'.ownsRow w.heap.size 46 2 (.slice ao (looseL vss).length c) (looseL vss).length (pairCells (looseL vss)) ∧ Below w.heap.size w w' := by
  obtain ⟨s, ss, h, rfl⟩ := h
  obtain ⟨i0, hi, hz0, hz1, hz2⟩ := info_parts Tryd.info46
  have h0 := h.c0
  have hm := h.many
  have H := hide h
  clear h
  go_enter Tryd.func18, Tryd.ntmps18
  go_wp2_with fail
  go_loopw [3, 11] (fun v i wr => ∃ k : Nat, k ≤ ss.length ∧ i = .int .i64 k ∧ ∃ ao c n, n = (looseUp (vers ss) k).length ∧ v = .slice ao n c ∧ wr.ownsRow w.heap.size 46 2 (.slice ao n c) n (pairCells (looseUp (vers ss) k)) ∧ Below w.heap.size w wr) (fun _ i _ => ss.length - (intOf i).toNat)
  case atStart => exact ⟨0, by omega, rfl, none, 0, 0, rfl, rfl, World.ownsRow_nil _ _ _ _, Below.refl _ _⟩
  case round =>
    clear h0
    obtain ⟨k, hk, rfl, ao, c, n, hn, rfl, hown, hbel⟩ := hrel
    have HO := hide hown
    have HB := hide hbel
    have HN := hide hn
    have H1 := hide (H.out.belowD hbel)
    have h1 := H1.out.c0
    have hle := looseUp_le (vers ss) k
    rw [← hn] at hle
    clear hown hbel hn
    by_cases hlt : k < ss.length
    · obtain ⟨x, hx⟩ := sec_at hlt
      have hx3 := (H1.out.each x (List.mem_of_getElem? hx)).2
      have HX := hide hx
      have hver : (verOf (vers ss) k).length = x.vs.length := by rw [verOf_vers hx]; simp
      have hki : (k : Int) < (ss.length : Int) := by omega
      have hx1 := hx3.1
      have hx2 := hx3.2.1
      clear hx hx3
      obtain ⟨m, hm'⟩ : ∃ m, m = x.vs.length := ⟨_, rfl⟩
      rw [← hm'] at hver hx1 hx2
      have HM : Hid (x.vs.length = m) := hm'.symm
      have HV := hide hver
      clear hm' hver
      by_cases hl : 1 < m
      · have hpos : (0 : Int) < (m : Int) - 1 := by omega
        have HS : Hid (looseUp (vers ss) (k + 1) = looseUp (vers ss) k ++ [(k, m - 1)]) := by
          have := looseUp_yes (vss := vers ss) (k := k) (by rw [HV.out]; exact hl)
          rw [HV.out] at this
          exact this
        go_wp2_with (first | (go_at_call 28; refine (sec_loose H1.out HX.out).mono ?_; rintro e w2 ⟨rfl, rfl⟩; rw [HM.out]) | (at_builtin; refine wpList_append_own _ rfl (.tmp 23) (.tmp 27) 39 rfl w.heap.size 46 i0 (.agg #[.int .i64 0, .int .i64 0]) 2 16 Tryd.underlying39 hi hz0 hz1 hz2 rfl (by decide) (.slice ao n c) n (pairCells (looseUp (vers ss) k)) rfl (HO.out.alloc _) ⟨w2.heap.size, 0, none⟩ 1 1 [.int .i64 k, .int .i64 ((m : Int) - 1)] rfl rfl (cell_two_new _ _ _ _) (by simp [Value.oneCell']) (by unfold maxLen; omega) (by omega) (by have := HB.out.size; simp; omega) ?_; intro v' w3 hown3 hgr3 _; have HO3 := hide hown3; have HG3 := hide hgr3; clear hown3 hgr3))
        go_roundw
        case rel =>
          obtain ⟨ao', c', rfl⟩ := own_shape_any HO3.out
          have hsz := HB.out.size
          refine ⟨k + 1, by omega, by go_num, ao', c', n + 1, ?_, rfl, ?_, ?_⟩
          · rw [HS.out, List.length_append, ← HN.out]; rfl
          · rw [HS.out, pairCells_snoc]
            have h3 := HO3.out
            rw [show (m : Int) - 1 = ((m - 1 : Nat) : Int) by omega] at h3
            exact h3
          · exact (HB.out.alloc hsz _).grown HG3.out (by simp; omega) (fun j e => (HO.out.lt j e).1)
        case measure => simp [intOf]; omega
      · have hpos : decide ((0 : Int) < (m : Int) - 1) = false := by simp; omega
        have HS : Hid (looseUp (vers ss) (k + 1) = looseUp (vers ss) k) := looseUp_no (vss := vers ss) (k := k) (by rw [HV.out]; exact hl)
        go_wp2_with (go_at_call 28; refine (sec_loose H1.out HX.out).mono ?_; rintro e w2 ⟨rfl, rfl⟩; rw [HM.out])
        go_roundw
        case rel => exact ⟨k + 1, by omega, by go_num, ao, c, n, by rw [HS.out]; exact HN.out, rfl, by rw [HS.out]; exact HO.out, HB.out⟩
        case measure => simp [intOf]; omega
    · go_wp2_with fail
      go_ret
      have hk' : k = ss.length := by omega
      have e : looseUp (vers ss) k = looseL (vers ss) := by rw [hk', looseL, length_vers]
      have h3 := HO.out
      have h4 := HN.out
      rw [e] at h3 h4
      rw [← h4]
      exact ⟨ao, c, rfl, h3, HB.out⟩

/-- The slice that begins at 'ao' reads in w as the numbers zs. -/
def IRow (w : World) (ao : Option Addr) (zs : List Int) : Prop :=
  zs.length ≤ 4294967296 ∧ (∀ x ∈ zs, -9223372036854775808 ≤ x ∧ x ≤ 9223372036854775807) ∧ (0 < zs.length → ∃ b off, ao = some ⟨b, off, none⟩ ∧ b < w.heap.size ∧ ∀ i, i < zs.length → w.cell? ⟨b, off + i, none⟩ = some (.int .i64 (zs.getD i 0)))
theorem IRow.bd {w : World} {ao : Option Addr} {zs : List Int} (h : IRow w ao zs) (i : Nat) : -9223372036854775808 ≤ zs.getD i 0 ∧ zs.getD i 0 ≤ 9223372036854775807 := by
  by_cases hi : i < zs.length
  · rw [List.getD_eq_getElem?_getD, List.getElem?_eq_getElem hi]
    exact h.2.1 _ (List.getElem_mem hi)
  · rw [List.getD_eq_getElem?_getD, List.getElem?_eq_none (by omega)]
    exact ⟨by decide, by decide⟩
theorem IRow.kept {w w' : World} {K : Nat → Prop} {ao : Option Addr} {zs : List Int} (h : IRow w ao zs) (hk : Kept K w w') (hK : 0 < zs.length → ∀ b off, ao = some ⟨b, off, none⟩ → K b) : IRow w' ao zs := by
  obtain ⟨h0, h1, h2⟩ := h
  refine ⟨h0, h1, fun hp => ?_⟩
  obtain ⟨b, off, e, hlt, hc⟩ := h2 hp
  refine ⟨b, off, e, by have := hk.size; omega, fun i hi => ?_⟩
  rw [hk.cell (by exact hK hp b off e)]
  exact hc i hi
set_option maxHeartbeats 400000 in
theorem choice_any (ao : Option Addr) (cap : Nat) (zs : List Int) (i n : Nat) (w : World) (h : IRow w ao zs) (hi : i ≤ 1000) (hn0 : 0 < n) (hn : n ≤ 4294967296) (ii nn : Int) (hii : ii = i) (hnn : nn = n) :
    Calls Tryd.prog 31 #[.slice ao zs.length cap, .int .i64 ii, .int .i64 nn] w fun e w' => e = .returned (.int .i64 (choiceB zs i n)) ∧ w' = w := by
  have hbd := h.bd i
  obtain ⟨h0, h1, h2⟩ := h
  clear h1
  subst hii hnn
  by_cases hlt : i < zs.length
  · have hli : decide ((zs.length : Int) ≤ (i : Int)) = false := by simp; omega
    have hki : (i : Int) < (zs.length : Int) := by omega
    obtain ⟨b, off, rfl, hb, hc⟩ := h2 (by omega)
    have hci := hc i hlt
    obtain ⟨y, hy⟩ : ∃ y, y = zs.getD i 0 := ⟨_, rfl⟩
    rw [← hy] at hci hbd
    have HY := hide hy
    clear hc h2 hy
    by_cases hneg : y < 0
    · have HC : Hid (choiceB zs i n = 0) := by
        show choiceB zs i n = 0
        rw [choiceB, if_pos (.inr (by rw [← HY.out]; exact hneg))]
      go_enter Tryd.func31, Tryd.ntmps31
      go_wp2_with fail
      go_ret
      exact ⟨by rw [HC.out]; rfl, rfl⟩
    · have hneg' : decide (y < 0) = false := by simpa using hneg
      have hne : ((n : Int) == 0) = false := by simp; omega
      have hne1 : (n : Int) ≠ 0 := by omega
      have HC : Hid ((choiceB zs i n : Int) = y % n) := by
        show (choiceB zs i n : Int) = y % n
        rw [choiceB, if_neg (by rw [← HY.out]; omega), ← HY.out]
        have := Int.emod_nonneg y hne1
        omega
      go_enter Tryd.func31, Tryd.ntmps31
      go_wp2_with fail
      go_ret
      exact ⟨ret_int HC.out.symm, rfl⟩
  · have hli : decide ((zs.length : Int) ≤ (i : Int)) = true := by simp; omega
    have hli' : (zs.length : Int) ≤ (i : Int) := by omega
    have HC : Hid (choiceB zs i n = 0) := by
      show choiceB zs i n = 0
      rw [choiceB, if_pos (.inl (by omega))]
    go_enter Tryd.func31, Tryd.ntmps31
    go_wp2_with fail
    go_ret
    exact ⟨by rw [HC.out]; rfl, rfl⟩
end Go.Proofs.YtedmgdiimfenaaaDoor
