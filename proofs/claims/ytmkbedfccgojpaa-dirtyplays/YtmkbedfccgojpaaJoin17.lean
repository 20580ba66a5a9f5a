/- Lemmas and contracts that the law stands on, joined: DtRef, DtRef2, DtRef3. -/
import Derived.Test.YtmkbedfccgojpaaJoin13
import Derived.Test.YtmkbedfccgojpaaJoin15
import Derived.Laws.AppendOwnNone
/- The document's own table of dirty pages (phoenixref7.Table): what its From, Least, Drop and Add answer. -/
namespace Go.Proofs.Ytmkbedfccgojpaa
open Go.RowKit
set_option linter.unusedVariables false

/-- At offset o of block X lies the document's table, which holds the pages es, in a block from B on. -/
structure RTab (w : World) (X o B : Nat) (ao : Option Addr) (c : Nat) (es : List (Int × Int)) : Prop where
  row : ∃ cs ty, w.heap[X]? = some (.cells cs ty (0, 0)) ∧ cs[o]? = some (.slice ao es.length c)
  own : OwnD w B ao c es
  lt : X < B
  up : Up es
section
variable {w w' : World} {X o B : Nat} {ao : Option Addr} {c : Nat} {es : List (Int × Int)}
theorem RTab.cell (h : RTab w X o B ao c es) : w.cell? ⟨X, o, none⟩ = some (.slice ao es.length c) := by
  obtain ⟨cs, ty, h1, h2⟩ := h.row
  exact (cell_row h1 o).trans h2
theorem RTab.fz (h : RTab w X o B ao c es) (i : Nat) : w.frozen? ⟨X, i, none⟩ = false := by
  obtain ⟨c, ty, h1, h2⟩ := h.row
  simp [World.frozen?, h1]
theorem RTab.ltw (h : RTab w X o B ao c es) : X < w.heap.size := by
  obtain ⟨c, ty, h1, h2⟩ := h.row
  exact lt_of_block h1
theorem RTab.below (h : RTab w X o B ao c es) {C : Nat} (hb : Below C w w') (hC : w.heap.size ≤ C) : RTab w' X o B ao c es := by
  obtain ⟨cs, ty, h1, h2⟩ := h.row
  exact ⟨⟨cs, ty, (hb.block X (Nat.lt_of_lt_of_le h.ltw hC)).trans h1, h2⟩, h.own.below hb hC, h.lt, h.up⟩
theorem RTab.step (h : RTab w X o B ao c es) (hb : Below w.heap.size w w') : RTab w' X o B ao c es := h.below hb (Nat.le_refl _)
theorem RTab.drew (h : RTab w X o B ao c es) : RTab w.drew X o B ao c es := h.step (below_drew (Below.refl _ _))
/-- A cell of the table's block is written. -/
theorem RTab.set (h : RTab w X o B ao c es) {B' : Nat} {bo : Option Addr} {d : Nat} {fs : List (Int × Int)} (hX : w'.heap[X]? = w.heap[X]?) (hown : OwnD w' B' bo d fs) (hB : B ≤ B') (hu : Up fs) {n : Nat} (hn : fs.length = n) : RTab (w'.setCell ⟨X, o, none⟩ (.slice bo n d)) X o B bo d fs := by
  subst hn
  obtain ⟨cs, ty, h1, h2⟩ := h.row
  have ho : o < cs.size := (Array.getElem?_eq_some_iff.1 h2).1
  rw [← hX] at h1
  have hl := h.lt
  refine ⟨⟨cs.setIfInBounds o (.slice bo fs.length d), ty, ?_, by simp [ho]⟩, ?_, hl, hu⟩
  · simp [World.setCell, Array.getElem?_modify, h1]
  · exact (hown.mono hB).of_blocks fun g hg hlt => Below.heap_setCell _ _ _ _ (by show g ≠ X; omega)
end
theorem val_none {es : List (Int × Int)} {p : Int} (h : ∀ i e, i < es.length → es[i]? = some e → e.1 ≠ p) : valE es p = none := valE_none.2 fun e he => by
  obtain ⟨i, hi⟩ := List.getElem?_of_mem he
  exact h i e (List.getElem?_eq_some_iff.1 hi).1 hi
theorem miss_up {es : List (Int × Int)} {p : Int} {k : Nat} {e : Int × Int} (h : ∀ i e, i < k → es[i]? = some e → e.1 ≠ p) (he : es[k]? = some e) (hne : e.1 ≠ p) : ∀ i e, i < k + 1 → es[i]? = some e → e.1 ≠ p := by
  intro i x hi hx
  by_cases hik : i = k
  · subst hik; rw [he] at hx; cases hx; exact hne
  · exact h i x (by omega) hx
set_option maxRecDepth 100000 in
set_option maxHeartbeats 2000000 in
theorem rtfrom_any {w : World} {X o B : Nat} {ao : Option Addr} {c : Nat} {es : List (Int × Int)} (h : RTab w X o B ao c es) (hn : es.length ≤ 500) (p : Int) :
    Calls Try.prog 14 #[.pointer (some ⟨X, o, none⟩), .int .i64 p] w fun e w' => e = .returned (.tuple #[.int .i64 ((valE es p).getD 0), .bool (hasE es p)]) ∧ w' = w := by
  have c0 := h.cell
  have HR := hide h.own.row
  have HU := hide h.up
  obtain ⟨n, hnn⟩ : ∃ n, n = es.length := ⟨_, rfl⟩
  rw [← hnn] at c0 hn
  have HN := hide hnn
  clear h hnn
  go_enter Try.func14, Try.ntmps14
  go_wp2_with fail
  go_loopw [6] (fun i wr => ∃ k : Nat, k ≤ n ∧ i = .int .i64 k ∧ wr = w ∧ ∀ (i : Nat) (e : Int × Int), i < k → es[i]? = some e → e.1 ≠ p) (fun i _ => n - posOf i)
  case atStart => exact ⟨0, by omega, rfl, rfl, fun i e hi => by omega⟩
  case round =>
    obtain ⟨k, hk, rfl, rfl, hmiss⟩ := hrel
    have HM := hide hmiss
    clear hmiss
    by_cases hlt : k < n
    · have hki : (k : Int) < (n : Int) := by omega
      obtain ⟨e, he⟩ : ∃ e, es[k]? = some e := ⟨es[k]'(by rw [← HN.out]; exact hlt), List.getElem?_eq_getElem _⟩
      obtain ⟨b, off, rfl, hlb, hc⟩ := HR.out.2 (by rw [← HN.out]; omega)
      obtain ⟨k0, k1⟩ := hc k e he
      have HE := hide he
      clear hc he hlb
      obtain ⟨x, y⟩ := e
      simp only at k0 k1
      by_cases hx : x = p
      · subst hx
        have HV := hide (valE_at HU.out HE.out)
        have HV2 : Hid ((valE es x).getD 0 = y ∧ hasE es x = true) := ⟨by rw [HV.out]; rfl, by unfold hasE; rw [HV.out]; rfl⟩
        go_wp2_with fail
        go_ret2
        exact ⟨by rw [HV2.out.1, HV2.out.2]; rfl, rfl⟩
      · have hx' : (x == p) = false := by simpa using hx
        have HM2 := hide (miss_up HM.out HE.out hx)
        go_wp2_with fail
        go_roundw
        case rel => exact ⟨k + 1, by omega, by go_num, trivial, HM2.out⟩
        case measure => simp [posOf]; omega
    · have hki : decide ((k : Int) < (n : Int)) = false := by simp; omega
      have HV : Hid (valE es p = none) := val_none fun i e hi he => HM.out i e (by rw [← HN.out] at hi; omega) he
      have HV2 : Hid ((valE es p).getD 0 = 0 ∧ hasE es p = false) := ⟨by rw [HV.out]; rfl, by unfold hasE; rw [HV.out]; rfl⟩
      go_wp2_with fail
      go_ret2
      exact ⟨by rw [HV2.out.1, HV2.out.2]; rfl, rfl⟩
set_option maxRecDepth 100000 in
set_option maxHeartbeats 2000000 in
theorem rtleast_any {w : World} {X o B : Nat} {ao : Option Addr} {c : Nat} {es : List (Int × Int)} (h : RTab w X o B ao c es) (hn : es.length ≤ 500) :
    Calls Try.prog 18 #[.pointer (some ⟨X, o, none⟩)] w fun e w' => e = .returned (.int .i64 (leastE es)) ∧ w' = w := by
  have c0 := h.cell
  have HR := hide h.own.row
  obtain ⟨n, hnn⟩ : ∃ n, n = es.length := ⟨_, rfl⟩
  rw [← hnn] at c0 hn
  have HN := hide hnn
  clear h hnn
  go_enter Try.func18, Try.ntmps18
  go_wp2_with fail
  go_loopw [3, 4] (fun v i wr => ∃ k : Nat, k ≤ n ∧ i = .int .i64 k ∧ wr = w ∧ v = .int .i64 (leastE (es.take k))) (fun _ i _ => n - posOf i)
  case atStart => exact ⟨0, by omega, rfl, rfl, rfl⟩
  case round =>
    obtain ⟨k, hk, rfl, rfl, rfl⟩ := hrel
    by_cases hlt : k < n
    · have hki : (k : Int) < (n : Int) := by omega
      obtain ⟨e, he⟩ : ∃ e, es[k]? = some e := ⟨es[k]'(by rw [← HN.out]; exact hlt), List.getElem?_eq_getElem _⟩
      obtain ⟨b, off, rfl, hlb, hc⟩ := HR.out.2 (by rw [← HN.out]; omega)
      obtain ⟨k0, k1⟩ := hc k e he
      have hl := leastE_take he
      obtain ⟨m, hm⟩ : ∃ m, m = leastE (es.take k) := ⟨_, rfl⟩
      rw [← hm] at hl ⊢
      have HL := hide hl
      clear hc he hlb hl hm k0
      obtain ⟨x, y⟩ := e
      simp only at k1
      by_cases hk0 : k = 0
      · subst hk0
        have HL2 : Hid (leastE (es.take (0 + 1)) = y) := by show _ = _; rw [HL.out, if_pos (.inl rfl)]
        go_wp2_with fail
        go_roundw
        case rel => exact ⟨1, by omega, by go_num, trivial, by rw [HL2.out]⟩
        case measure => simp [posOf]; omega
      · have hk1 : ((k : Int) == 0) = false := by simp; omega
        by_cases hy : y < m
        · have HL2 : Hid (leastE (es.take (k + 1)) = y) := by show _ = _; rw [HL.out, if_pos (.inr hy)]
          go_wp2_with fail
          go_roundw
          case rel => exact ⟨k + 1, by omega, by go_num, trivial, by rw [HL2.out]⟩
          case measure => simp [posOf]; omega
        · have hy' : decide (y < m) = false := by simpa using hy
          have HL2 : Hid (leastE (es.take (k + 1)) = m) := by show _ = _; rw [HL.out, if_neg (fun h => h.elim hk0 hy)]
          go_wp2_with fail
          go_roundw
          case rel => exact ⟨k + 1, by omega, by go_num, trivial, by rw [HL2.out]⟩
          case measure => simp [posOf]; omega
    · have hki : decide ((k : Int) < (n : Int)) = false := by simp; omega
      have HT : Hid (es.take k = es) := List.take_of_length_le (by rw [← HN.out]; omega)
      go_wp2_with fail
      go_ret
      exact ⟨by rw [HT.out]; rfl, rfl⟩
end Go.Proofs.Ytmkbedfccgojpaa

/- What the document's own table's Drop and Add answer. -/
namespace Go.Proofs.Ytmkbedfccgojpaa
open Go.RowKit
set_option linter.unusedVariables false

/-- What the builtin append does to pages of our own, of a tail of others. -/
theorem tail_append {w : World} {B B0 : Nat} {bo : Option Addr} {m d : Nat} {fs es : List (Int × Int)} {ao : Option Addr} {c k n : Nat} (hown : OwnD w B bo d fs) (hm : fs.length = m) (hsrc : OwnD w B0 ao c es) (hn : es.length = n) (hk : k ≤ n) (hs : m + n ≤ 1000) (hB : B ≤ w.heap.size) (ty : TypeId) :
    ∃ ao' c' w', (Builtin.append_ #[27, 27] ty #[.slice bo m d, sliced ao k n c 2]).run Try.prog w = .ok (.slice ao' (m + (n - k)) c') w' ∧ OwnD w' B ao' c' (fs ++ es.drop k) ∧ w.grownBy w' (Value.slice bo m d).ownBlock ∧ Below B w w' := by
  have hdl : (es.drop k).length = n - k := by rw [List.length_drop, hn]
  rcases hsrc.1.2 with ⟨h1, h2⟩ | ⟨g, c', cur, hv, hg, hh, h4, h5, h6, h7⟩
  · simp only [Value.slice.injEq] at h1
    obtain ⟨rfl, _, rfl⟩ := h1
    have hes : es = [] := List.length_eq_zero_iff.1 h2
    subst hes
    obtain rfl : n = 0 := by simpa using hn.symm
    obtain rfl : k = 0 := by omega
    obtain ⟨i0, hi, hz0, hz1, hz2⟩ := info_parts Try.info42
    subst hm
    have hrun := run_append_owned_none (P := Try.prog) (w := w) B 27 ty 42 i0 2 Try.underlying27 hi (.slice bo fs.length d) fs.length (dirCells fs) hown.1
    exact ⟨bo, d, w, hrun, by simpa using hown, ⟨rfl, rfl, rfl, Nat.le_refl _, fun _ _ _ => rfl⟩, Below.refl _ _⟩
  · simp only [Value.slice.injEq] at hv
    obtain ⟨rfl, _, rfl⟩ := hv
    obtain ⟨b, off, e0, hbl, hcell⟩ | h0 : (∃ b off, (some ⟨g, 0, none⟩ : Option Addr) = some ⟨b, off, none⟩ ∧ b < w.heap.size ∧ ∀ (i : Nat) (e : Int × Int), es[i]? = some e → w.cell? ⟨b, off + i * 2, none⟩ = some (.int .i64 e.1) ∧ w.cell? ⟨b, off + i * 2 + 1, none⟩ = some (.int .i64 e.2)) ∨ n = 0 := by
      by_cases hp : 0 < es.length
      · exact .inl (hsrc.row.2 hp)
      · exact .inr (by omega)
    · simp only [Option.some.injEq, Addr.mk.injEq] at e0
      obtain ⟨rfl, rfl, _⟩ := e0
      by_cases hck : c = k
      · have hkn : k = n := by omega
        obtain ⟨ao', c', w', r1, r2, r3, r4⟩ := run_appendD (b := g) (off := 0) (yc := 0) (ts := []) (m := 0) hown hm rfl (by omega) hB (fun i e hi => by simp at hi) ty
        refine ⟨ao', c', w', ?_, ?_, r3, r4⟩
        · have e : sliced (some ⟨g, 0, none⟩) k n c 2 = .slice (some ⟨g, 0, none⟩) 0 0 := by unfold sliced; rw [if_pos hck, show n - k = 0 by omega, show c - k = 0 by omega]
          rw [e, r1, hkn, Nat.sub_self]
        · rw [List.drop_eq_nil_of_le (by omega)]; exact r2
      · obtain ⟨ao', c', w', r1, r2, r3, r4⟩ := run_appendD (b := g) (off := 0 + k * 2) (yc := c - k) (ts := es.drop k) hown hm hdl (by omega) hB (fun i e hi => by
          rw [List.getElem?_drop] at hi
          have := hcell _ _ hi
          rw [show 0 + k * 2 + i * 2 = 0 + (k + i) * 2 by omega]
          exact this) ty
        refine ⟨ao', c', w', ?_, r2, r3, r4⟩
        have e : sliced (some ⟨g, 0, none⟩) k n c 2 = .slice (some ⟨g, 0 + k * 2, none⟩) (n - k) (c - k) := by
          unfold sliced
          rw [if_neg hck]
          show Value.slice (some ((⟨g, 0, none⟩ : Addr).add (k * 2))) _ _ = _
          rw [Addr.add_lit]
        rw [e, r1]
    · subst h0
      obtain rfl : k = 0 := by omega
      obtain ⟨ao', c', w', r1, r2, r3, r4⟩ := run_appendD (b := g) (off := 0) (yc := c) (ts := []) (m := 0) hown hm rfl (by omega) hB (fun i e hi => by simp at hi) ty
      have hes : es = [] := List.length_eq_zero_iff.1 hn
      subst hes
      refine ⟨ao', c', w', ?_, by simpa using r2, r3, r4⟩
      have e : sliced (some ⟨g, 0, none⟩) 0 0 c 2 = .slice (some ⟨g, 0, none⟩) 0 c := by
        unfold sliced
        split
        · simp
        · simp [Addr.add]
      rw [e, r1]
theorem DirRow.take {w : World} {ao : Option Addr} {es : List (Int × Int)} (h : DirRow w ao es) (k : Nat) : DirRow w ao (es.take k) := by
  refine ⟨Nat.le_trans (by rw [List.length_take]; omega) h.1, fun hp => ?_⟩
  have hl : 0 < es.length := by rw [List.length_take] at hp; omega
  obtain ⟨b, off, e, hlt, hc⟩ := h.2 hl
  refine ⟨b, off, e, hlt, fun i x hi => hc i x ?_⟩
  rw [List.getElem?_take] at hi
  split at hi
  · exact hi
  · simp at hi
theorem rem_at {es : List (Int × Int)} (hu : Up es) {k : Nat} {e : Int × Int} (he : es[k]? = some e) : remE e.1 es = es.take k ++ es.drop (k + 1) := by
  induction es generalizing k with
  | nil => simp at he
  | cons x r ih =>
    have hu' := List.pairwise_cons.1 hu
    cases k with
    | zero =>
      simp only [List.getElem?_cons_zero, Option.some.injEq] at he
      subst he
      show (x :: r).filter _ = _
      rw [List.filter_cons, if_neg (by simp)]
      exact rem_of_not (hasE_false.2 fun y hy => by have := hu'.1 y hy; omega)
    | succ k =>
      have he' : r[k]? = some e := by simpa using he
      have hx := hu'.1 e (List.mem_of_getElem? he')
      show (x :: r).filter _ = _
      rw [List.filter_cons, if_pos (by simp; omega)]
      have := ih hu'.2 he'
      unfold remE at this
      rw [this]
      rfl
set_option maxRecDepth 100000 in
set_option maxHeartbeats 4000000 in
theorem rtdrop_any {w : World} {X o B : Nat} {ao : Option Addr} {c : Nat} {es : List (Int × Int)} (h : RTab w X o B ao c es) (hn : es.length ≤ 400) (hB : B ≤ w.heap.size) (p : Int) :
    Calls Try.prog 10 #[.pointer (some ⟨X, o, none⟩), .int .i64 p] w fun e w' => e = .returned (.bool (hasE es p)) ∧ But2 X none w w' ∧ ∃ ao' c', RTab w' X o B ao' c' (remE p es) := by
  have c0 := h.cell
  have f0 := h.fz o
  have hltw := h.ltw
  have HT := hide h
  have HR := hide h.own.row
  obtain ⟨n, hnn⟩ : ∃ n, n = es.length := ⟨_, rfl⟩
  rw [← hnn] at c0 hn
  have HN := hide hnn
  have HBW := hide hB
  have hnc : n ≤ c := by rw [hnn]; exact h.own.le
  have hc63 : c ≤ 9223372036854775807 := by
    rcases h.own.1.2 with ⟨h1, h2⟩ | ⟨g, c', cur, h1, h2, h3, h4, h5, _⟩
    · simp only [Value.slice.injEq] at h1; omega
    · simp only [Value.slice.injEq] at h1
      obtain ⟨_, _, rfl⟩ := h1
      unfold maxLen at h5; omega
  clear h hnn hB
  go_enter Try.func10, Try.ntmps10
  go_wp2_with fail
  go_loopw [5] (fun i wr => ∃ k : Nat, k ≤ n ∧ i = .int .i64 k ∧ wr = w ∧ ∀ (i : Nat) (e : Int × Int), i < k → es[i]? = some e → e.1 ≠ p) (fun i _ => n - posOf i)
  case atStart => exact ⟨0, by omega, rfl, rfl, fun i e hi => by omega⟩
  case round =>
    obtain ⟨k, hk, rfl, rfl, hmiss⟩ := hrel
    have HM := hide hmiss
    clear hmiss
    by_cases hlt : k < n
    · have hki : (k : Int) < (n : Int) := by omega
      obtain ⟨e, he⟩ : ∃ e, es[k]? = some e := ⟨es[k]'(by rw [← HN.out]; exact hlt), List.getElem?_eq_getElem _⟩
      obtain ⟨b, off, rfl, hlb, hc⟩ := HR.out.2 (by rw [← HN.out]; omega)
      obtain ⟨k0, k1⟩ := hc k e he
      have HE := hide he
      clear hc he hlb k1
      obtain ⟨x, y⟩ := e
      simp only at k0
      by_cases hx : x = p
      · subst hx
        have HH : Hid (hasE es x = true) := hasE_true (List.mem_of_getElem? HE.out) rfl
        have HREM : Hid (remE x es = es.take k ++ es.drop (k + 1)) := rem_at HT.out.up HE.out
        have hck : ¬ c = 0 := by omega
        have hrow : DirRow wr (some ⟨b, off, none⟩) (es.take k) := HR.out.take k
        have hcopy := copyD_any (some ⟨b, off, none⟩) k c (es.take k) wr hrow (by rw [List.length_take, ← HN.out]; omega)
        go_wp2_with fail
        refine hcopy.mono ?_
        rintro e9 x1 ⟨bo, d, rfl, ho, hb⟩
        obtain ⟨a2, c2, x2, hrun, hown2, hgr, hb2⟩ := tail_append ho (show _ = k by rw [List.length_take, ← HN.out]; omega) (HT.out.step hb).own HN.out.symm (show k + 1 ≤ n by omega) (by omega) hb.size 27
        have hx2 : x2.heap[X]? = wr.heap[X]? := ((hb.trans hb2).block X hltw)
        rw [← HREM.out] at hown2
        have HRUN := hide hrun
        have HT2 := hide (HT.out.set hx2 hown2 HBW.out (HT.out.up.rem x) rfl)
        have HB2 := hide (hb.trans hb2)
        have c0' := ((HT.out.step hb).cell)
        rw [← HN.out] at c0'
        have f0' : x2.frozen? ⟨X, o, none⟩ = false := by
          have := HT.out.fz o
          unfold World.frozen? at this ⊢
          rw [hx2]; exact this
        have hx2c : x2.cell? ⟨X, o, none⟩ = some (.slice (some ⟨b, off, none⟩) n c) := by
          unfold World.cell? at c0 ⊢
          rw [hx2]; exact c0
        clear hrun hown2 hgr ho hcopy
        have HH2 := hide HN.out
        by_cases hck1 : c = k + 1
        · subst hck1
          have hnk : n = k + 1 := by omega
          subst hnk
          have HR1 : Hid ((Builtin.append_ #[27, 27] 27 #[.slice bo k d, .slice (some ⟨b, off, none⟩) 0 0]).run Try.prog x1 = .ok (.slice a2 k c2) x2) := by
            have := HRUN.out
            simp [sliced] at this
            exact this
          have HLEN : Hid ((remE x es).length = k) := by
            show _ = _
            rw [HREM.out, List.length_append, List.length_take, List.length_drop, ← HN.out]; omega
          have hc2 := hx2c
          go_wp2_with (at_builtin; refine wpList_append_runD rfl (.tmp 34) (.tmp 41) 27 rfl _ _ rfl rfl HR1.out ?_)
          go_ret
          have := HT2.out
          rw [HLEN.out] at this
          exact ⟨by rw [HH.out]; rfl, (But2.of_below HB2.out).setT o _, _, _, this⟩
        · have HR1 : Hid ((Builtin.append_ #[27, 27] 27 #[.slice bo k d, .slice (some ⟨b, off + (k + 1) * 2, none⟩) (n - (k + 1)) (c - (k + 1))]).run Try.prog x1 = .ok (.slice a2 (k + (n - (k + 1))) c2) x2) := by
            have := HRUN.out
            unfold sliced at this
            rw [if_neg hck1] at this
            exact this
          have HLEN : Hid ((remE x es).length = k + (n - (k + 1))) := by
            show _ = _
            rw [HREM.out, List.length_append, List.length_take, List.length_drop, ← HN.out]; omega
          have hc2 := hx2c
          go_wp2_with (at_builtin; refine wpList_append_runD rfl (.tmp 34) (.tmp 41) 27 rfl _ _ rfl rfl HR1.out ?_)
          go_ret
          have := HT2.out
          rw [HLEN.out] at this
          exact ⟨by rw [HH.out]; rfl, (But2.of_below HB2.out).setT o _, _, _, this⟩
      · have hx' : (x == p) = false := by simpa using hx
        have HM2 := hide (miss_up HM.out HE.out hx)
        go_wp2_with fail
        go_roundw
        case rel => exact ⟨k + 1, by omega, by go_num, trivial, HM2.out⟩
        case measure => simp [posOf]; omega
    · have hki : decide ((k : Int) < (n : Int)) = false := by simp; omega
      have HV : Hid (hasE es p = false) := by
        show _ = _
        unfold hasE
        rw [val_none fun i e hi he => HM.out i e (by rw [← HN.out] at hi; omega) he]
        rfl
      go_wp2_with fail
      go_ret
      exact ⟨by rw [HV.out]; rfl, But2.refl _ _ _, ao, c, by rw [rem_of_not HV.out]; exact HT.out⟩
end Go.Proofs.Ytmkbedfccgojpaa

/- What the document's own table's Add answers. -/
namespace Go.Proofs.Ytmkbedfccgojpaa
open Go.RowKit
set_option linter.unusedVariables false

theorem ins_at {es : List (Int × Int)} {p f : Int} {k : Nat} (hk : k ≤ es.length) (hlo : ∀ (i : Nat) (e : Int × Int), i < k → es[i]? = some e → e.1 < p) (hhi : ∀ e, es[k]? = some e → p < e.1) : insE p f es = es.take k ++ [(p, f)] ++ es.drop k := by
  induction es generalizing k with
  | nil => simp at hk; subst hk; rfl
  | cons x r ih =>
    rw [insE]
    cases k with
    | zero =>
      have := hhi x rfl
      rw [if_neg (by omega), if_neg (by omega)]; rfl
    | succ k =>
      have := hlo 0 x (by omega) rfl
      rw [if_pos this, ih (k := k) (by simpa using hk) (fun i e hi he => hlo (i + 1) e (by omega) (by simpa using he)) (fun e he => hhi e (by simpa using he))]
      rfl
theorem sliced_tail (g k n c : Nat) (h : ¬ c = k) : sliced (some ⟨g, 0, none⟩) k n c 2 = .slice (some ⟨g, k * 2, none⟩) (n - k) (c - k) := by
  unfold sliced
  rw [if_neg h]
  show Value.slice (some ((⟨g, 0, none⟩ : Addr).add (k * 2))) _ _ = _
  rw [Addr.add_lit, Nat.zero_add]
theorem sliced_end (g n c : Nat) : sliced (some ⟨g, 0, none⟩) c n c 2 = .slice (some ⟨g, 0, none⟩) (n - c) (c - c) := by
  unfold sliced
  rw [if_pos rfl]
/-- What a list of our own is as a slice. -/
theorem own_cases {w : World} {B : Nat} {ao : Option Addr} {c : Nat} {es : List (Int × Int)} (h : OwnD w B ao c es) : (ao = none ∧ c = 0 ∧ es = []) ∨ (∃ g, ao = some ⟨g, 0, none⟩) ∧ es.length ≤ c ∧ c ≤ 9223372036854775807 := by
  rcases h.1.2 with ⟨h1, h2⟩ | ⟨g, c', cur, h1, h2, h3, h4, h5, _⟩
  · simp only [Value.slice.injEq] at h1
    exact .inl ⟨h1.1, h1.2.2, List.length_eq_zero_iff.1 h2⟩
  · simp only [Value.slice.injEq] at h1
    obtain ⟨rfl, _, rfl⟩ := h1
    exact .inr ⟨⟨g, rfl⟩, h4, by unfold maxLen at h5; omega⟩
set_option maxRecDepth 100000 in
set_option maxHeartbeats 8000000 in
theorem rtadd_any {w : World} {X o B : Nat} {ao : Option Addr} {c : Nat} {es : List (Int × Int)} (h : RTab w X o B ao c es) (hn : es.length ≤ 400) (hB : B ≤ w.heap.size) (p f : Int) :
    Calls Try.prog 12 #[.pointer (some ⟨X, o, none⟩), .int .i64 p, .int .i64 f] w fun e w' => e = .returned (.tuple #[]) ∧ But2 X none w w' ∧ ∃ ao' c', RTab w' X o B ao' c' (addE p f es) := by
  have c0 := h.cell
  have hltw := h.ltw
  have HT := hide h
  have HR := hide h.own.row
  have HOC := hide (own_cases h.own)
  obtain ⟨n, hnn⟩ : ∃ n, n = es.length := ⟨_, rfl⟩
  rw [← hnn] at c0
  have HN := hide hnn
  have HBW := hide hB
  have hn4 : n ≤ 400 := by omega
  clear h hnn hB hn
  cases hh : hasE es p with
  | true =>
    have HA : Hid (addE p f es = es) := by show _ = _; unfold addE; rw [if_pos hh]
    have hfrom := rtfrom_any HT.out (by rw [← HN.out]; omega) p
    rw [hh] at hfrom
    clear hh
    go_enter Try.func12, Try.ntmps12
    go_wp2_with fail
    refine hfrom.mono ?_
    rintro e x1 ⟨rfl, rfl⟩
    go_wp2_with fail
    refine bodyPost_ret (results_none rfl _ _ _) rfl ?_
    exact ⟨rfl, But2.refl _ _ _, ao, c, by rw [HA.out]; exact HT.out⟩
  | false =>
    have HA : Hid (addE p f es = insE p f es) := by show _ = _; unfold addE; rw [if_neg (by rw [hh]; simp)]
    have HH := hide hh
    have hfrom := rtfrom_any HT.out (by rw [← HN.out]; omega) p
    rw [hh] at hfrom
    clear hh
    go_enter Try.func12, Try.ntmps12
    go_wp2_with fail
    refine hfrom.mono ?_
    rintro e x1 ⟨rfl, rfl⟩
    clear hfrom
    obtain ⟨V0, hV0⟩ : ∃ V0, V0 = (valE es p).getD 0 := ⟨_, rfl⟩
    rw [← hV0]
    clear hV0
    go_wp2_with fail
    go_loopw [8] (fun i wr => ∃ k : Nat, k ≤ n ∧ i = .int .i64 k ∧ wr = x1 ∧ ∀ (i : Nat) (e : Int × Int), i < k → es[i]? = some e → e.1 < p) (fun i _ => n - posOf i)
    case atStart => exact ⟨0, by omega, rfl, rfl, fun i e hi => by omega⟩
    case round =>
      obtain ⟨k, hk, rfl, rfl, hlo⟩ := hrel
      have HLO := hide hlo
      clear hlo
      by_cases hgo : ∃ e, es[k]? = some e ∧ e.1 < p
      · obtain ⟨e, he, hep⟩ := hgo
        have hlt : k < n := by rw [HN.out]; exact (List.getElem?_eq_some_iff.1 he).1
        have hki : (k : Int) < (n : Int) := by omega
        obtain ⟨b, off, rfl, hlb, hc⟩ := HR.out.2 (by rw [← HN.out]; omega)
        obtain ⟨k0, k1⟩ := hc k e he
        have HLO2 : Hid (∀ (i : Nat) (x : Int × Int), i < k + 1 → es[i]? = some x → x.1 < p) := fun i x hi hx => by
          by_cases hik : i = k
          · subst hik; rw [he] at hx; cases hx; exact hep
          · exact HLO.out i x (by omega) hx
        clear hc he hlb k1
        obtain ⟨x, y⟩ := e
        simp only at k0 hep
        go_wp2_with fail
        go_roundw
        case rel => exact ⟨k + 1, by omega, by go_num, trivial, HLO2.out⟩
        case measure => simp [posOf]; omega
      · have HI : Hid (insE p f es = es.take k ++ [(p, f)] ++ es.drop k) := ins_at (by rw [← HN.out]; exact hk) HLO.out fun e he => by
          have h1 := hasE_false.1 HH.out e (List.mem_of_getElem? he)
          have h2 : ¬ e.1 < p := fun h => hgo ⟨e, he, h⟩
          omega
        have htk : (es.take k).length = k := by rw [List.length_take, ← HN.out]; omega
        have hcopy := copyD_any ao k c (es.take k) wr (HR.out.take k) htk
        have hlast : (k : Int) < (n : Int) → ∃ b off x y, ao = some ⟨b, off, none⟩ ∧ wr.cell? ⟨b, off + k * 2, none⟩ = some (.int .i64 x) ∧ decide (x < p) = false := fun hkn => by
          obtain ⟨e, he⟩ : ∃ e, es[k]? = some e := ⟨es[k]'(by rw [← HN.out]; omega), List.getElem?_eq_getElem _⟩
          obtain ⟨b, off, e1, hlb, hc⟩ := HR.out.2 (by rw [← HN.out]; omega)
          exact ⟨b, off, e.1, e.2, e1, (hc k e he).1, by simpa using fun h => hgo ⟨e, he, h⟩⟩
        clear hgo
        rcases HOC.out with ⟨rfl, rfl, hes⟩ | ⟨⟨g, rfl⟩, hnc, hc63⟩
        · have hn0 : n = 0 := by rw [HN.out, hes]; rfl
          subst hn0
          obtain rfl : k = 0 := by omega
          go_wp2_with fail
          refine hcopy.mono ?_
          rintro e9 x2 ⟨bo, d, rfl, ho, hb⟩
          have hbx := below_box x2 (dirBlock (p, f))
          obtain ⟨a3, c3, x3, hrun, hown3, hgr, hb3⟩ := run_appendD (yc := 1) (ho.step hbx) htk (show [(p, f)].length = 1 from rfl) (by omega) (Nat.le_trans hb.size hbx.size) (dir_new x2 (p, f)) 27
          have HR1 := hide hrun
          have hT3 := HT.out.below (hb.trans ((hbx.mono hb.size).trans hb3)) (Nat.le_refl _)
          obtain ⟨a4, c4, x4, hrun4, hown4, hgr4, hb4⟩ := tail_append hown3 (show _ = 0 + 1 by rw [List.length_append, htk]; rfl) hT3.own HN.out.symm (show 0 ≤ 0 by omega) (by omega) (Nat.le_trans hb.size (Nat.le_trans hbx.size hb3.size)) 27
          rw [← HI.out] at hown4
          have hxx : Below wr.heap.size wr x4 := (hb.trans ((hbx.mono hb.size).trans hb3)).trans hb4
          have hlen : (insE p f es).length = 0 + 1 := by rw [HI.out, List.length_append, List.length_append, htk, List.length_drop, ← HN.out]; first | rfl | (simp only [List.length_cons, List.length_nil]; omega)
          have HT4 := hide (HT.out.set (hxx.block X hltw) hown4 HBW.out (HT.out.up.ins p f) hlen)
          have HB4 := hide hxx
          have hc3 := hT3.cell
          rw [← HN.out] at hc3
          have HR2 : Hid ((Builtin.append_ #[27, 27] 27 #[.slice a3 (0 + 1) c3, .slice none 0 0]).run Try.prog x3 = .ok (.slice a4 (0 + 1) c4) x4) := by
            have := hrun4
            simp [sliced] at this
            exact this
          have c4' := ((HT.out.below hxx (Nat.le_refl _)).cell)
          have f4 := (HT.out.below hxx (Nat.le_refl _)).fz o
          rw [← HN.out] at c4'
          clear hrun hrun4 hown3 hown4 hgr hgr4 ho hcopy hT3 hlen hxx
          go_wp2_with (first | (with_reducible refine buildD (p, f) ?_ ?_; rfl) | (at_builtin; refine wpList_append_runD rfl (.tmp 44) (.tmp 48) 27 rfl _ _ rfl rfl HR1.out ?_) | (at_builtin; refine wpList_append_runD rfl (.tmp 51) (.tmp 57) 27 rfl _ _ rfl rfl HR2.out ?_))
          go_end0
          exact ⟨rfl, (But2.of_below HB4.out).setT o _, _, _, by rw [HA.out]; exact HT4.out⟩
        · rw [← HN.out] at hnc
          by_cases hkn : k < n
          · have hki : (k : Int) < (n : Int) := by omega
            obtain ⟨b, off, x, y, e1, k0, hxp⟩ := hlast hki
            simp only [Option.some.injEq, Addr.mk.injEq] at e1
            obtain ⟨rfl, rfl, _⟩ := e1
            rw [Nat.zero_add] at k0
            have hck : ¬ c = k := by omega
            have hc0 : ¬ c = 0 := by omega
            clear hlast
            go_wp2_with fail
            refine hcopy.mono ?_
            rintro e9 x2 ⟨bo, d, rfl, ho, hb⟩
            have hbx := below_box x2 (dirBlock (p, f))
            obtain ⟨a3, c3, x3, hrun, hown3, hgr, hb3⟩ := run_appendD (yc := 1) (ho.step hbx) htk (show [(p, f)].length = 1 from rfl) (by omega) (Nat.le_trans hb.size hbx.size) (dir_new x2 (p, f)) 27
            have HR1 := hide hrun
            have hT3 := HT.out.below (hb.trans ((hbx.mono hb.size).trans hb3)) (Nat.le_refl _)
            obtain ⟨a4, c4, x4, hrun4, hown4, hgr4, hb4⟩ := tail_append hown3 (show _ = k + 1 by rw [List.length_append, htk]; rfl) hT3.own HN.out.symm (show k ≤ n by omega) (by omega) (Nat.le_trans hb.size (Nat.le_trans hbx.size hb3.size)) 27
            rw [← HI.out] at hown4
            have hxx : Below wr.heap.size wr x4 := (hb.trans ((hbx.mono hb.size).trans hb3)).trans hb4
            have hlen : (insE p f es).length = k + 1 + (n - k) := by rw [HI.out, List.length_append, List.length_append, htk, List.length_drop, ← HN.out]; first | rfl | (simp only [List.length_cons, List.length_nil]; omega)
            have HT4 := hide (HT.out.set (hxx.block X hltw) hown4 HBW.out (HT.out.up.ins p f) hlen)
            have HB4 := hide hxx
            have hc3 := hT3.cell
            rw [← HN.out] at hc3
            have HR2 : Hid ((Builtin.append_ #[27, 27] 27 #[.slice a3 (k + 1) c3, .slice (some ⟨g, k * 2, none⟩) (n - k) (c - k)]).run Try.prog x3 = .ok (.slice a4 (k + 1 + (n - k)) c4) x4) := by
              have := hrun4
              rw [sliced_tail _ _ _ _ hck] at this
              exact this
            have c4' := ((HT.out.below hxx (Nat.le_refl _)).cell)
            have f4 := (HT.out.below hxx (Nat.le_refl _)).fz o
            rw [← HN.out] at c4'
            clear hrun hrun4 hown3 hown4 hgr hgr4 ho hcopy hT3 hlen hxx
            go_wp2_with (first | (with_reducible refine buildD (p, f) ?_ ?_; rfl) | (at_builtin; refine wpList_append_runD rfl (.tmp 44) (.tmp 48) 27 rfl _ _ rfl rfl HR1.out ?_) | (at_builtin; refine wpList_append_runD rfl (.tmp 51) (.tmp 57) 27 rfl _ _ rfl rfl HR2.out ?_))
            go_end0
            exact ⟨rfl, (But2.of_below HB4.out).setT o _, _, _, by rw [HA.out]; exact HT4.out⟩
          · have hkn' : k = n := by omega
            subst hkn'
            by_cases hck : c = k
            · subst hck
              go_wp2_with fail
              refine hcopy.mono ?_
              rintro e9 x2 ⟨bo, d, rfl, ho, hb⟩
              have hbx := below_box x2 (dirBlock (p, f))
              obtain ⟨a3, c3, x3, hrun, hown3, hgr, hb3⟩ := run_appendD (yc := 1) (ho.step hbx) htk (show [(p, f)].length = 1 from rfl) (by omega) (Nat.le_trans hb.size hbx.size) (dir_new x2 (p, f)) 27
              have HR1 := hide hrun
              have hT3 := HT.out.below (hb.trans ((hbx.mono hb.size).trans hb3)) (Nat.le_refl _)
              obtain ⟨a4, c4, x4, hrun4, hown4, hgr4, hb4⟩ := tail_append hown3 (show _ = c + 1 by rw [List.length_append, htk]; rfl) hT3.own HN.out.symm (show c ≤ c by omega) (by omega) (Nat.le_trans hb.size (Nat.le_trans hbx.size hb3.size)) 27
              rw [← HI.out] at hown4
              have hxx : Below wr.heap.size wr x4 := (hb.trans ((hbx.mono hb.size).trans hb3)).trans hb4
              have hlen : (insE p f es).length = c + 1 := by rw [HI.out, List.length_append, List.length_append, htk, List.length_drop, ← HN.out]; first | rfl | (simp only [List.length_cons, List.length_nil]; omega)
              have HT4 := hide (HT.out.set (hxx.block X hltw) hown4 HBW.out (HT.out.up.ins p f) hlen)
              have HB4 := hide hxx
              have hc3 := hT3.cell
              rw [← HN.out] at hc3
              have HR2 : Hid ((Builtin.append_ #[27, 27] 27 #[.slice a3 (c + 1) c3, .slice (some ⟨g, 0, none⟩) 0 0]).run Try.prog x3 = .ok (.slice a4 (c + 1) c4) x4) := by
                have := hrun4
                rw [sliced_end, Nat.sub_self] at this
                exact this
              have c4' := ((HT.out.below hxx (Nat.le_refl _)).cell)
              have f4 := (HT.out.below hxx (Nat.le_refl _)).fz o
              rw [← HN.out] at c4'
              clear hrun hrun4 hown3 hown4 hgr hgr4 ho hcopy hT3 hlen hxx
              go_wp2_with (first | (with_reducible refine buildD (p, f) ?_ ?_; rfl) | (at_builtin; refine wpList_append_runD rfl (.tmp 44) (.tmp 48) 27 rfl _ _ rfl rfl HR1.out ?_) | (at_builtin; refine wpList_append_runD rfl (.tmp 51) (.tmp 57) 27 rfl _ _ rfl rfl HR2.out ?_))
              go_end0
              exact ⟨rfl, (But2.of_below HB4.out).setT o _, _, _, by rw [HA.out]; exact HT4.out⟩
            · have hc0 : ¬ c = 0 := by omega
              go_wp2_with fail
              refine hcopy.mono ?_
              rintro e9 x2 ⟨bo, d, rfl, ho, hb⟩
              have hbx := below_box x2 (dirBlock (p, f))
              obtain ⟨a3, c3, x3, hrun, hown3, hgr, hb3⟩ := run_appendD (yc := 1) (ho.step hbx) htk (show [(p, f)].length = 1 from rfl) (by omega) (Nat.le_trans hb.size hbx.size) (dir_new x2 (p, f)) 27
              have HR1 := hide hrun
              have hT3 := HT.out.below (hb.trans ((hbx.mono hb.size).trans hb3)) (Nat.le_refl _)
              obtain ⟨a4, c4, x4, hrun4, hown4, hgr4, hb4⟩ := tail_append hown3 (show _ = k + 1 by rw [List.length_append, htk]; rfl) hT3.own HN.out.symm (show k ≤ k by omega) (by omega) (Nat.le_trans hb.size (Nat.le_trans hbx.size hb3.size)) 27
              rw [← HI.out] at hown4
              have hxx : Below wr.heap.size wr x4 := (hb.trans ((hbx.mono hb.size).trans hb3)).trans hb4
              have hlen : (insE p f es).length = k + 1 := by rw [HI.out, List.length_append, List.length_append, htk, List.length_drop, ← HN.out]; first | rfl | (simp only [List.length_cons, List.length_nil]; omega)
              have HT4 := hide (HT.out.set (hxx.block X hltw) hown4 HBW.out (HT.out.up.ins p f) hlen)
              have HB4 := hide hxx
              have hc3 := hT3.cell
              rw [← HN.out] at hc3
              have HR2 : Hid ((Builtin.append_ #[27, 27] 27 #[.slice a3 (k + 1) c3, .slice (some ⟨g, k * 2, none⟩) 0 (c - k)]).run Try.prog x3 = .ok (.slice a4 (k + 1) c4) x4) := by
                have := hrun4
                rw [sliced_tail _ _ _ _ hck, Nat.sub_self] at this
                exact this
              have c4' := ((HT.out.below hxx (Nat.le_refl _)).cell)
              have f4 := (HT.out.below hxx (Nat.le_refl _)).fz o
              rw [← HN.out] at c4'
              clear hrun hrun4 hown3 hown4 hgr hgr4 ho hcopy hT3 hlen hxx
              go_wp2_with (first | (with_reducible refine buildD (p, f) ?_ ?_; rfl) | (at_builtin; refine wpList_append_runD rfl (.tmp 44) (.tmp 48) 27 rfl _ _ rfl rfl HR1.out ?_) | (at_builtin; refine wpList_append_runD rfl (.tmp 51) (.tmp 57) 27 rfl _ _ rfl rfl HR2.out ?_))
              go_end0
              exact ⟨rfl, (But2.of_below HB4.out).setT o _, _, _, by rw [HA.out]; exact HT4.out⟩
end Go.Proofs.Ytmkbedfccgojpaa
