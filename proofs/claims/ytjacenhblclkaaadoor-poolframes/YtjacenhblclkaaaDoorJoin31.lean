/- Lemmas and contracts that the law stands on, joined: Looses, Crashes. -/
import Derived.Test.YtjacenhblclkaaaDoorJoin5
import Derived.Test.YtjacenhblclkaaaDoorJoin29
/- What a disk's Loose answers, and which version of a sector a crash keeps. -/
namespace Go.Proofs.YtjacenhblclkaaaDoor
open Go.RowKit
set_option linter.unusedVariables false

theorem Tryd.info102 : (Tryd.prog.info? 102).map (fun i => (i.zero, i.size, i.bytes)) = some (some (.agg #[.int .i64 0, .int .i64 0]), 2, 16) := by kernel_rfl
/-- Pairs as cells. -/
def pairCells (l : List (Nat × Nat)) : List Value := l.flatMap fun q => [.int .i64 q.1, .int .i64 q.2]
theorem length_pairCells (l : List (Nat × Nat)) : (pairCells l).length = l.length * 2 := by
  induction l with
  | nil => rfl
  | cons q l ih => simp only [pairCells, List.flatMap_cons, List.length_append, List.length_cons, List.length_nil] at ih ⊢; omega
theorem pairCells_snoc (l : List (Nat × Nat)) (q : Nat × Nat) : pairCells (l ++ [q]) = pairCells l ++ [.int .i64 q.1, .int .i64 q.2] := by simp [pairCells]
theorem pairCells_at : ∀ (l : List (Nat × Nat)) (t : Nat) (q : Nat × Nat), l[t]? = some q → (pairCells l)[t * 2]? = some (.int .i64 q.1) ∧ (pairCells l)[t * 2 + 1]? = some (.int .i64 q.2) := by
  intro l
  induction l with
  | nil => intro t q h; simp at h
  | cons p l ih =>
    intro t q h
    cases t with
    | zero => simp at h; subst h; simp [pairCells]
    | succ t =>
      have h1 := ih t q (by simpa using h)
      simp only [pairCells, List.flatMap_cons] at h1 ⊢
      rw [show (t + 1) * 2 = t * 2 + 2 by omega, show t * 2 + 2 + 1 = (t * 2 + 1) + 2 by omega]
      simpa using h1
theorem own_shape_any {w : World} {B e sz n : Nat} {v : Value} {cs : List Value} (h : w.ownsRow B e sz v n cs) : ∃ ao cap, v = .slice ao n cap := by
  rcases h.2 with ⟨h1, h2⟩ | ⟨g, cap, cur, h1, _⟩
  · exact ⟨none, 0, by rw [h1, h2]⟩
  · exact ⟨_, cap, h1⟩
theorem cell_two_new (w : World) (x y : Value) (e : TypeId) : ∀ j u, [x, y][j]? = some u → (w.alloc (.cells #[x, y] e)).cell? ((⟨w.heap.size, 0, none⟩ : Addr).add j) = some u := by
  intro j u hj
  rw [Addr.add_lit, cell_row (heap_alloc_new w (.cells #[x, y] e))]
  simpa using hj
theorem verOf_vers {ss : List Sec} {i : Nat} {x : Sec} (h : ss[i]? = some x) : verOf (vers ss) i = x.vs.map (·.xs) := vers_at h

set_option maxRecDepth 100000 in
set_option maxHeartbeats 1000000 in
theorem looses_any (d : Nat) {w : World} {K : Nat → Prop} {a : Nat → Addr} {vss : List (List (List Int))} {off : Bool} {fuse : Int} (h : Disk w K a d vss off fuse) :
    Calls Tryd.prog 20 #[.pointer (some ⟨d, 0, none⟩)] w fun e w' => ∃ ao c, e = .returned (.slice ao (looseL vss).length c) ∧ w'.ownsRow w.heap.size 102 2 (.slice ao (looseL vss).length c) (looseL vss).length (pairCells (looseL vss)) ∧ Below w.heap.size w w' := by
  obtain ⟨s, ss, h, rfl⟩ := h
  obtain ⟨i0, hi, hz0, hz1, hz2⟩ := info_parts Tryd.info102
  have h0 := h.c0
  have hm := h.many
  have H := hide h
  clear h
  go_enter Tryd.func20, Tryd.ntmps20
  go_wp2_with fail
  go_loopw [3, 11] (fun v i wr => ∃ k : Nat, k ≤ ss.length ∧ i = .int .i64 k ∧ ∃ ao c n, n = (looseUp (vers ss) k).length ∧ v = .slice ao n c ∧ wr.ownsRow w.heap.size 102 2 (.slice ao n c) n (pairCells (looseUp (vers ss) k)) ∧ Below w.heap.size w wr) (fun _ i _ => ss.length - (intOf i).toNat)
  case atStart => exact ⟨0, by omega, rfl, none, 0, 0, rfl, rfl, World.ownsRow_nil _ _ _ _, Below.refl _ _⟩
  case round =>
    clear h0
    obtain ⟨k, hk, rfl, ao, c, n, hn, rfl, hown, hbel⟩ := hrel
    have HO := hide hown
    have HB := hide hbel
    have HN := hide hn
    have H1 := hide (H.out.belowD hbel)
    have h1 := H1.out.c0
    have hle := looseUp_le (vers ss) k
    rw [← hn] at hle
    clear hown hbel hn
    by_cases hlt : k < ss.length
    · obtain ⟨x, hx⟩ := sec_at hlt
      have hx3 := (H1.out.each x (List.mem_of_getElem? hx)).2
      have HX := hide hx
      have hver : (verOf (vers ss) k).length = x.vs.length := by rw [verOf_vers hx]; simp
      have hki : (k : Int) < (ss.length : Int) := by omega
      have hx1 := hx3.1
      have hx2 := hx3.2.1
      clear hx hx3
      obtain ⟨m, hm'⟩ : ∃ m, m = x.vs.length := ⟨_, rfl⟩
      rw [← hm'] at hver hx1 hx2
      have HM : Hid (x.vs.length = m) := hm'.symm
      have HV := hide hver
      clear hm' hver
      by_cases hl : 1 < m
      · have hpos : (0 : Int) < (m : Int) - 1 := by omega
        have HS : Hid (looseUp (vers ss) (k + 1) = looseUp (vers ss) k ++ [(k, m - 1)]) := by
          have := looseUp_yes (vss := vers ss) (k := k) (by rw [HV.out]; exact hl)
          rw [HV.out] at this
          exact this
        go_wp2_with (first | (go_at_call 48; refine (sec_loose H1.out HX.out).mono ?_; rintro e w2 ⟨rfl, rfl⟩; rw [HM.out]) | (at_builtin; refine wpList_append_own _ rfl (.tmp 23) (.tmp 27) 51 rfl w.heap.size 102 i0 (.agg #[.int .i64 0, .int .i64 0]) 2 16 Tryd.underlying51 hi hz0 hz1 hz2 rfl (by decide) (.slice ao n c) n (pairCells (looseUp (vers ss) k)) rfl (HO.out.alloc _) ⟨w2.heap.size, 0, none⟩ 1 1 [.int .i64 k, .int .i64 ((m : Int) - 1)] rfl rfl (cell_two_new _ _ _ _) (by simp [Value.oneCell']) (by unfold maxLen; omega) (by omega) (by have := HB.out.size; simp; omega) ?_; intro v' w3 hown3 hgr3 _; have HO3 := hide hown3; have HG3 := hide hgr3; clear hown3 hgr3))
        go_roundw
        case rel =>
          obtain ⟨ao', c', rfl⟩ := own_shape_any HO3.out
          have hsz := HB.out.size
          refine ⟨k + 1, by omega, by go_num, ao', c', n + 1, ?_, rfl, ?_, ?_⟩
          · rw [HS.out, List.length_append, ← HN.out]; rfl
          · rw [HS.out, pairCells_snoc]
            have h3 := HO3.out
            rw [show (m : Int) - 1 = ((m - 1 : Nat) : Int) by omega] at h3
            exact h3
          · exact (HB.out.alloc hsz _).grown HG3.out (by simp; omega) (fun j e => (HO.out.lt j e).1)
        case measure => simp [intOf]; omega
      · have hpos : decide ((0 : Int) < (m : Int) - 1) = false := by simp; omega
        have HS : Hid (looseUp (vers ss) (k + 1) = looseUp (vers ss) k) := looseUp_no (vss := vers ss) (k := k) (by rw [HV.out]; exact hl)
        go_wp2_with (go_at_call 48; refine (sec_loose H1.out HX.out).mono ?_; rintro e w2 ⟨rfl, rfl⟩; rw [HM.out])
        go_roundw
        case rel => exact ⟨k + 1, by omega, by go_num, ao, c, n, by rw [HS.out]; exact HN.out, rfl, by rw [HS.out]; exact HO.out, HB.out⟩
        case measure => simp [intOf]; omega
    · go_wp2_with fail
      go_ret
      have hk' : k = ss.length := by omega
      have e : looseUp (vers ss) k = looseL (vers ss) := by rw [hk', looseL, length_vers]
      have h3 := HO.out
      have h4 := HN.out
      rw [e] at h3 h4
      rw [← h4]
      exact ⟨ao, c, rfl, h3, HB.out⟩

/-- The slice that begins at 'ao' reads in w as the numbers zs. -/
def IRow (w : World) (ao : Option Addr) (zs : List Int) : Prop :=
  zs.length ≤ 4294967296 ∧ (∀ x ∈ zs, -9223372036854775808 ≤ x ∧ x ≤ 9223372036854775807) ∧ (0 < zs.length → ∃ b off, ao = some ⟨b, off, none⟩ ∧ b < w.heap.size ∧ ∀ i, i < zs.length → w.cell? ⟨b, off + i, none⟩ = some (.int .i64 (zs.getD i 0)))
theorem IRow.bd {w : World} {ao : Option Addr} {zs : List Int} (h : IRow w ao zs) (i : Nat) : -9223372036854775808 ≤ zs.getD i 0 ∧ zs.getD i 0 ≤ 9223372036854775807 := by
  by_cases hi : i < zs.length
  · rw [List.getD_eq_getElem?_getD, List.getElem?_eq_getElem hi]
    exact h.2.1 _ (List.getElem_mem hi)
  · rw [List.getD_eq_getElem?_getD, List.getElem?_eq_none (by omega)]
    exact ⟨by decide, by decide⟩
theorem IRow.kept {w w' : World} {K : Nat → Prop} {ao : Option Addr} {zs : List Int} (h : IRow w ao zs) (hk : Kept K w w') (hK : 0 < zs.length → ∀ b off, ao = some ⟨b, off, none⟩ → K b) : IRow w' ao zs := by
  obtain ⟨h0, h1, h2⟩ := h
  refine ⟨h0, h1, fun hp => ?_⟩
  obtain ⟨b, off, e, hlt, hc⟩ := h2 hp
  refine ⟨b, off, e, by have := hk.size; omega, fun i hi => ?_⟩
  rw [hk.cell (by exact hK hp b off e)]
  exact hc i hi
end Go.Proofs.YtjacenhblclkaaaDoor

/- What a disk's Crash does, at every disk and every choice. -/
namespace Go.Proofs.YtjacenhblclkaaaDoor
open Go.RowKit
set_option linter.unusedVariables false

theorem owns_first {w : World} {B e sz n : Nat} {v : Value} {cs : List Value} (h : w.ownsRow B e sz v n cs) (hn : 0 < n) : ∃ g cap, v = .slice (some ⟨g, 0, none⟩) n cap ∧ B ≤ g ∧ g < w.heap.size ∧ ∀ j u, cs[j]? = some u → w.cell? ⟨g, j, none⟩ = some u := by
  rcases h.2 with ⟨_, e0⟩ | ⟨g, cap, cur, hv, hg, hh, _⟩
  · omega
  · refine ⟨g, cap, hv, hg, lt_of_block hh, fun j u hj => ?_⟩
    have := h.cells (g := g) (by rw [hv]; rfl) j u hj
    rw [Addr.add_lit, Nat.zero_add] at this
    exact this
/-- What K names, and the blocks from b to c. -/
def wider (K : Nat → Prop) (b c : Nat) (k : Nat) : Prop := K k ∨ b ≤ k ∧ k < c
theorem DiskOf.widen {w w' : World} {K : Nat → Prop} {a : Nat → Addr} {d s : Nat} {ss : List Sec} {off : Bool} {fuse : Int} (h : DiskOf w K a d s ss off fuse) (hb : Below w.heap.size w w') : DiskOf w' (wider K w.heap.size w'.heap.size) a d s ss off fuse :=
  h.more hb (fun k hk => by rcases hk with h1 | h1; exact ⟨Nat.lt_of_lt_of_le (h.low k h1) hb.size, fun _ => h1⟩; exact ⟨h1.2, fun h2 => absurd h2 (by omega)⟩) (fun k hk => .inl (h.errs k hk).1)
theorem DiskOf.narrow {w : World} {K L : Nat → Prop} {a : Nat → Addr} {d s : Nat} {ss : List Sec} {off : Bool} {fuse : Int} (h : DiskOf w L a d s ss off fuse) (hK : ∀ k, K k → L k) (h3 : ∀ k, k < 3 → K (gno k)) : DiskOf w K a d s ss off fuse :=
  h.more (Below.refl _ _) (fun k hk => ⟨h.low k (hK k hk), fun _ => hK k hk⟩) h3
theorem crash_step {ss' : List Sec} {zs : List Int} {vss : List (List (List Int))} {t : Nat} {q : Nat × Nat} {x : Sec} {p : Part} {v' : Value} (hq : (looseL vss)[t]? = some q) (he : vers ss' = crashUp zs vss t) (hx : ss'[q.1]? = some x) (hp : x.vs[choiceB zs t (q.2 + 1)]? = some p) : vers (ss'.set q.1 ⟨v', [p]⟩) = crashUp zs vss (t + 1) := by
  have h1 : (vers ss')[q.1]? = some (x.vs.map (·.xs)) := by rw [vers_get, hx]; rfl
  rw [he, crashUp_at hq] at h1
  simp only [Option.some.injEq] at h1
  rw [vers_set, he, ← crashUp_succ hq]
  congr 1
  rw [h1]
  simp only [List.map_cons, List.map_nil, List.getD_eq_getElem?_getD, List.getElem?_map, hp]
  rfl
theorem crash_pick {ss' : List Sec} {zs : List Int} {vss : List (List (List Int))} {t : Nat} {q : Nat × Nat} (hq : (looseL vss)[t]? = some q) (he : vers ss' = crashUp zs vss t) : ∃ x p, ss'[q.1]? = some x ∧ x.vs.length = q.2 + 1 ∧ x.vs[choiceB zs t (q.2 + 1)]? = some p := by
  obtain ⟨h1, h2, h3, h4⟩ := looseL_at hq
  have h5 : (vers ss')[q.1]? = some (verOf vss q.1) := by rw [he, crashUp_at hq]
  rw [vers_get] at h5
  obtain ⟨x, hx, e⟩ := Option.map_eq_some_iff.1 h5
  have hl : x.vs.length = q.2 + 1 := by rw [h3, ← e]; simp
  have hc := choiceB_lt zs t (q.2 + 1) (by omega)
  exact ⟨x, _, hx, hl, List.getElem?_eq_getElem (by omega)⟩

end Go.Proofs.YtjacenhblclkaaaDoor
