
/- Lists of lists of bytes of the call's own: how they stay, and what is left of them when one byte turns. -/
import Derived.Test.YtedmgdiimfenaaaDoorKeepMath
import Derived.ArgAppend
import Derived.Maps.AppendAt
namespace Go.Proofs.YtedmgdiimfenaaaDoor
open Go.RowKit
set_option linter.unusedVariables false

theorem OwnRows.kept {w w' : World} {K : Nat → Prop} {B : Nat} {ao : Option Addr} {cap : Nat} {ps : List Part} (h : OwnRows w B ao cap ps) (hk : Kept K w w') (hK : ∀ g, g < w.heap.size → B ≤ g → K g) : OwnRows w' B ao cap ps := by
  refine ⟨owns_of_block h.1 fun g hg hlt => hk.block g (hK g hlt (h.1.lt g hg).1), fun p hp => (h.2 p hp).of_block fun g hg hlt => hk.block g (hK g hlt ((h.2 p hp).1.lt g hg).1)⟩
theorem OwnRows.rows2 {w : World} {B : Nat} {ao : Option Addr} {cap : Nat} {ps : List Part} (h : OwnRows w B ao cap ps) (hl : ps.length ≤ 4294967296) (hp : ∀ p ∈ ps, 1 ≤ p.xs.length) : Rows2 w ao ps := by
  refine ⟨hl, fun p hpm => ⟨(h.2 p hpm).row, fun e => ?_⟩, fun h0 => ?_⟩
  · obtain ⟨g, c, hv, _⟩ := owns_first (h.2 p hpm).1 (hp p hpm)
    simp only [Value.slice.injEq] at hv
    rw [e] at hv
    simp at hv
  · obtain ⟨g, c, hv, hg, hlt, hc⟩ := owns_first h.1 h0
    simp only [Value.slice.injEq] at hv
    refine ⟨g, 0, hv.1, hlt, fun i hi => ?_⟩
    rw [Nat.zero_add]
    exact hc i _ (by simp [hi])
theorem OwnRows.at {w : World} {B : Nat} {ao : Option Addr} {cap : Nat} {ps : List Part} (h : OwnRows w B ao cap ps) {k : Nat} {p : Part} (hk : ps[k]? = some p) : ∃ g, ao = some ⟨g, 0, none⟩ ∧ B ≤ g ∧ g < w.heap.size ∧ w.cell? ⟨g, k, none⟩ = some p.val := by
  obtain ⟨g, c, hv, hg, hlt, hc⟩ := owns_first h.1 (Nat.lt_of_le_of_lt (Nat.zero_le _) (List.getElem?_eq_some_iff.1 hk).1)
  simp only [Value.slice.injEq] at hv
  exact ⟨g, hv.1, hg, hlt, hc k _ (by simp [hk])⟩
theorem Own.first {w : World} {B : Nat} {ao : Option Addr} {cap : Nat} {xs : List Int} (h : Own w B ao cap xs) (hx : 1 ≤ xs.length) : ∃ g, ao = some ⟨g, 0, none⟩ ∧ B ≤ g ∧ g < w.heap.size := by
  obtain ⟨g, c, hv, hg, hlt, _⟩ := owns_first h.1 hx
  simp only [Value.slice.injEq] at hv
  exact ⟨g, hv.1, hg, hlt⟩
theorem Own.touch {w : World} {B g j : Nat} {ao : Option Addr} {cap : Nat} {xs : List Int} (h : Own w B ao cap xs) (x : Int) (h0 : 0 ≤ x) (h1 : x ≤ 255) : ∃ ys : List Int, ys.length = xs.length ∧ Own (w.setCell ⟨g, j, none⟩ (.int .u8 x)) B ao cap ys := by
  by_cases e : (Value.slice ao xs.length cap).ownBlock = some g
  · have e2 : ao = some ⟨g, 0, none⟩ := by
      rcases h.1.2 with ⟨hv, _⟩ | ⟨g', c', cur, hv, _⟩
      · rw [hv] at e
        simp [Value.ownBlock] at e
      · simp only [Value.slice.injEq] at hv
        rw [hv.1] at e ⊢
        simp only [Value.ownBlock, Option.some.injEq] at e
        rw [e]
    subst e2
    exact ⟨xs.set j x, by simp, h.stored j x h0 h1⟩
  · exact ⟨xs, rfl, h.of_block fun g' hg' _ => Below.heap_setCell _ _ _ _ (fun e2 => e (by rw [hg', e2]))⟩
/-- One byte of one of the lists turns: the lists are as long as they were, and lie where they lay. -/
theorem OwnRows.touch {w : World} {B C g j : Nat} {ao ao' : Option Addr} {cap cap' : Nat} {ps : List Part} {xs : List Int} (h : OwnRows w B ao cap ps) (hg : Own w C ao' cap' xs) (hao : ao' = some ⟨g, 0, none⟩) (x : Int) (h0 : 0 ≤ x) (h1 : x ≤ 255) : ∃ qs : List Part, qs.map Part.val = ps.map Part.val ∧ OwnRows (w.setCell ⟨g, j, none⟩ (.int .u8 x)) B ao cap qs := by
  have hrow : (w.setCell ⟨g, j, none⟩ (.int .u8 x)).ownsRow B 27 1 (.slice ao ps.length cap) ps.length (ps.map Part.val) := by
    refine owns_of_block h.1 fun g' hg' _ => Below.heap_setCell _ _ _ _ ?_
    rintro rfl
    obtain ⟨cur, hc⟩ := owns_type h.1 hg'
    obtain ⟨cur', hc'⟩ := owns_type (g := g') hg.1 (by rw [hao]; rfl)
    rw [hc] at hc'
    simp at hc'
  have hparts : ∀ (l : List Part), (∀ p ∈ l, Own w B p.ao p.cap p.xs) → ∃ qs : List Part, qs.map Part.val = l.map Part.val ∧ ∀ p ∈ qs, Own (w.setCell ⟨g, j, none⟩ (.int .u8 x)) B p.ao p.cap p.xs := by
    intro l
    induction l with
    | nil => intro _; exact ⟨[], rfl, fun p hp => by simp at hp⟩
    | cons p l ih =>
      intro hl
      obtain ⟨qs, e, hq⟩ := ih fun p hp => hl p (by simp [hp])
      obtain ⟨ys, hy, ho⟩ := (hl p (by simp)).touch (g := g) (j := j) x h0 h1
      refine ⟨⟨p.ao, p.cap, ys⟩ :: qs, ?_, fun q hqm => ?_⟩
      · simp only [List.map_cons, e, Part.val, hy]
      · rcases List.mem_cons.1 hqm with h2 | h2
        · rw [h2]; exact ho
        · exact hq q h2
  obtain ⟨qs, e, hq⟩ := hparts ps h.2
  have hlen : qs.length = ps.length := by have := congrArg List.length e; simpa using this
  exact ⟨qs, e, by rw [hlen, e]; exact hrow, hq⟩
theorem val_len {qs ps : List Part} (h : qs.map Part.val = ps.map Part.val) (hp : ∀ p ∈ ps, p.xs.length = 256) : ∀ q ∈ qs, q.xs.length = 256 := by
  intro q hq
  have h1 : q.val ∈ ps.map Part.val := by rw [← h]; exact List.mem_map.2 ⟨q, hq, rfl⟩
  obtain ⟨p, hpm, e⟩ := List.mem_map.1 h1
  have := hp p hpm
  simp only [Part.val, Value.slice.injEq] at e
  omega
/-- An append of whatever kind, inside a region that leaves its order open, under whatever guard says yes. -/
theorem step_append_run {P : Program} {w : World} {ops : Array Oper} {o : Oper} {a : Act} {K : Act → World → Prop} {Q : Exit → Act → World → Prop} {E : Prop} (hw : Region.wanted o (yielded ops a.tmps) = true) (s x : Operand) (t : TypeId)
    (ho : o.op = .call { callee := .builtin .append, args := #[s, x], argTypes := #[t, t] }) (vs vx : Value) (hs : a.eval s = vs) (hx : a.eval x = vx) {v' : Value} {w' : World} (hr : (Builtin.append_ #[t, t] o.type #[vs, vx]).run P w = .ok v' w')
    (h : K (a.put o.dst v') w') : if Region.wanted o (yielded ops a.tmps) = true then Oper.wp P o a w K Q else E := by
  rw [if_pos hw]
  unfold Oper.wp execOp
  simp only [ho, resolve, invoke, builtin, Sem.run_bind, Sem.run_pure, Result.andThen_ok, List.map_toArray, List.map_cons, List.map_nil, hs, hx, hr]
  exact h
theorem val_one (p : Part) : p.val.oneCell' = true := rfl
/-- 'append(m[:c:c], append([][]byte{nil}, m[c+1:]...)...)': the list with a nil in one place, in memory of its own. -/
theorem nil_at {v1 : World} {B mg mc k c : Nat} {qs : List Part} (h : OwnRows v1 B (some ⟨mg, 0, none⟩) mc qs) (hk : qs.length = k) (hc : c < k) (hk6 : k ≤ 6) (hmc : k ≤ mc) (h256 : ∀ q ∈ qs, q.xs.length = 256) (A : Option Addr) (hA : A = if mc = c + 1 then some ⟨mg, 0, none⟩ else some ⟨mg, c + 1, none⟩) :
    ∃ v2 w2 w3 lo lc ls, (Builtin.append_ #[50, 50] 50 #[.slice (some ⟨v1.heap.size, 0, none⟩) 1 1, .slice A (k - (c + 1)) (mc - (c + 1))]).run Tryd.prog (v1.alloc (.cells #[.slice none 0 0] 27)) = .ok v2 w2 ∧
      (Builtin.append_ #[50, 50] 50 #[.slice (some ⟨mg, 0, none⟩) c c, v2]).run Tryd.prog w2 = .ok (.slice lo k lc) w3 ∧ Rows2 w3 lo ls ∧ ls.length = k ∧ (∃ p ∈ ls, p.xs.length ≠ 256) ∧ Below v1.heap.size v1 w3 ∧ Below v1.heap.size v1 w2 ∧ Below v1.heap.size v1 (v1.alloc (.cells #[.slice none 0 0] 27)) := by
  obtain ⟨i0, hi, hz0, hz1, hz2⟩ := info_parts Tryd.info27
  have hb1 : Below v1.heap.size v1 (v1.alloc (.cells #[.slice none 0 0] 27)) := (Below.refl _ _).alloc (Nat.le_refl _) _
  have hown1 : (v1.alloc (.cells #[.slice none 0 0] 27)).ownsRow v1.heap.size 27 1 (.slice (some ⟨v1.heap.size, 0, none⟩) 1 1) 1 [.slice none 0 0] := ⟨by simp, .inr ⟨v1.heap.size, 1, #[.slice none 0 0], rfl, Nat.le_refl _, heap_alloc_new _ _, by simp, by decide, by simp, by simp⟩⟩
  have hmgl : mg < v1.heap.size := (h.1.lt mg rfl).2
  have hcell : ∀ (j : Nat) (p : Part), qs[j]? = some p → v1.cell? ⟨mg, j, none⟩ = some p.val := by
    intro j p hp
    obtain ⟨g, e, _, _, hc⟩ := h.at hp
    cases e
    exact hc
  obtain ⟨ad, hAd, hnews⟩ : ∃ ad, A = some ad ∧ ∀ (j : Nat) (u : Value), ((qs.drop (c + 1)).map Part.val)[j]? = some u → (v1.alloc (.cells #[.slice none 0 0] 27)).cell? (ad.add j) = some u := by
    by_cases e : mc = c + 1
    · rw [if_pos e] at hA
      refine ⟨_, hA, fun j u hj => ?_⟩
      have := (List.getElem?_eq_some_iff.1 hj).1
      simp at this
      omega
    · rw [if_neg e] at hA
      refine ⟨_, hA, fun j u hj => ?_⟩
      rw [List.getElem?_map] at hj
      obtain ⟨p, hp, rfl⟩ := Option.map_eq_some_iff.1 hj
      rw [List.getElem?_drop] at hp
      rw [Addr.add_lit, hb1.cell hmgl]
      exact hcell _ _ hp
  rw [hAd]
  obtain ⟨v2, w2, hr2, ho2, hg2, _, _⟩ := run_append_own_at (P := Tryd.prog) (v1.alloc (.cells #[.slice none 0 0] 27)) v1.heap.size 50 50 27 i0 (.slice none 0 0) 1 24 Tryd.underlying50 hi hz0 hz1 hz2 rfl (by decide) (.slice (some ⟨v1.heap.size, 0, none⟩) 1 1) 1 [.slice none 0 0] hown1 ad (k - (c + 1)) (mc - (c + 1)) ((qs.drop (c + 1)).map Part.val) (by simp [hk]) hnews (fun u hu => by obtain ⟨p, _, rfl⟩ := List.mem_map.1 hu; exact val_one p) (by unfold maxLen; omega) (by omega) (by simp)
  have hb2 : Below v1.heap.size v1 w2 := hb1.grown hg2 (by simp) (fun j e => by cases e; exact Nat.le_refl _)
  obtain ⟨g2, c2, hv2, _, _, hc2⟩ := owns_first ho2 (by omega)
  subst hv2
  obtain ⟨v3, w3, hr3, ho3, hg3⟩ := run_append_arg_grows (P := Tryd.prog) w2 50 50 27 i0 (.slice none 0 0) 1 24 Tryd.underlying50 hi hz0 hz1 hz2 rfl (by decide) ⟨mg, 0, none⟩ c c ((qs.take c).map Part.val) (by simp [hk]; omega)
    (fun j u hj => by
      rw [List.getElem?_map] at hj
      obtain ⟨p, hp, rfl⟩ := Option.map_eq_some_iff.1 hj
      rw [List.getElem?_take] at hp
      split at hp
      · rw [Addr.add_lit, Nat.zero_add, hb2.cell hmgl]
        exact hcell _ _ hp
      · simp at hp)
    ⟨g2, 0, none⟩ (1 + (k - (c + 1))) c2 ([.slice none 0 0] ++ (qs.drop (c + 1)).map Part.val) (by simp [hk]; omega) (fun j u hj => by rw [Addr.add_lit, Nat.zero_add]; exact hc2 j u hj) (by omega) (by unfold maxLen; omega) (by omega)
  have hb3 : Below v1.heap.size v1 w3 := hb2.grown hg3 hb2.size (by simp)
  obtain ⟨lo, lc, rfl⟩ := own_shape ho3
  have hn : c + (1 + (k - (c + 1))) = k := by omega
  rw [hn] at hr3 ho3
  have hmap : (qs.take c).map Part.val ++ ([Value.slice none 0 0] ++ (qs.drop (c + 1)).map Part.val) = (qs.take c ++ [(⟨none, 0, []⟩ : Part)] ++ qs.drop (c + 1)).map Part.val := by simp [Part.val]
  rw [hmap] at ho3
  have hlen : (qs.take c ++ [(⟨none, 0, []⟩ : Part)] ++ qs.drop (c + 1)).length = k := by simp [hk]; omega
  refine ⟨.slice (some ⟨g2, 0, none⟩) (1 + (k - (c + 1))) c2, w2, w3, lo, lc, qs.take c ++ [(⟨none, 0, []⟩ : Part)] ++ qs.drop (c + 1), hr2, hr3, ⟨by omega, fun p hp => ?_, fun _ => ?_⟩, hlen, ⟨⟨none, 0, []⟩, by simp, by simp⟩, hb3, hb2, hb1⟩
  · have hq : ∀ q ∈ qs, Part.isIn w3 q := fun q hq => ⟨((h.2 q hq).below hb3 (Nat.le_refl _)).row, fun e => by
      obtain ⟨g, e2, _⟩ := (h.2 q hq).first (by rw [h256 q hq]; omega)
      rw [e] at e2
      simp at e2⟩
    rcases List.mem_append.1 hp with h1 | h1
    · rcases List.mem_append.1 h1 with h2 | h2
      · exact hq p (List.mem_of_mem_take h2)
      · rw [List.mem_singleton.1 h2]
        exact ⟨row_nil _, fun _ => ⟨rfl, rfl⟩⟩
    · exact hq p (List.mem_of_mem_drop h1)
  · obtain ⟨g3, c3, hv3, _, hlt3, hc3⟩ := owns_first ho3 (by omega)
    simp only [Value.slice.injEq] at hv3
    refine ⟨g3, 0, hv3.1, hlt3, fun i hi => ?_⟩
    rw [Nat.zero_add]
    exact hc3 i _ (by simp only [List.getElem?_map, List.getElem?_eq_getElem hi]; rfl)
end Go.Proofs.YtedmgdiimfenaaaDoor
