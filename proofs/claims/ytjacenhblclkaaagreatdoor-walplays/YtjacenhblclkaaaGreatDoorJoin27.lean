/- Lemmas and contracts that the law stands on, joined: BlockRef. -/
import Derived.Test.YtjacenhblclkaaaGreatDoorJoin12
import Derived.Test.YtjacenhblclkaaaGreatDoorJoin26
/- What the document's own BlockBytes (phoenixref1) answers, at every epoch and list of records: the number of ErrRange, or a block's bytes in new memory. -/
namespace Go.Proofs.YtjacenhblclkaaaGreatDoor
open Go.RowKit
set_option linter.unusedVariables false

theorem append_two {w : World} {ops : Array Oper} {rest : List Oper} {o : Oper} {a : Act} {Q : Exit → Act → World → Prop}
    (hw : Region.wanted o (yielded ops a.tmps) = true) (s x : Operand)
    (ho : o.op = .call { callee := .builtin .append, args := #[s, x], argTypes := #[65, 65] })
    (B : Nat) (ao : Option Addr) (cap m : Nat) (xs : List Int) (hs : a.eval s = .slice ao m cap) (hm : xs.length = m) (hO : Own w B ao cap xs)
    (g k c : Nat) (ys : List Int) (hx : a.eval x = .slice (some ⟨g, 0, none⟩) k c) (hk : ys.length = k) (hr : Row w (some ⟨g, 0, none⟩) ys)
    (hlen : m + k ≤ 4294967296) (hB : B ≤ w.heap.size)
    (h : ∀ ao' c' w', Own w' B ao' c' (xs ++ ys) → Below B w w' → wpList Tryz.prog ops Q rest (a.put o.dst (.slice ao' (m + k) c')) w') : wpList Tryz.prog ops Q (o :: rest) a w := by
  subst hm; subst hk
  refine wpList_append_bytes hw s x ho B ao cap xs hs hO _ c ys hx hr (fun e => by cases e) hlen hB (xs ++ ys) rfl fun ao' c' w' h1 h2 _ => ?_
  rw [List.length_append]
  exact h ao' c' w' h1 h2
def mark16 : Obj := .cells #[.int .u8 80, .int .u8 72, .int .u8 88, .int .u8 66, .int .u8 0, .int .u8 0, .int .u8 0, .int .u8 0, .int .u8 0, .int .u8 0, .int .u8 0, .int .u8 0, .int .u8 0, .int .u8 0, .int .u8 0, .int .u8 0] 5
theorem mark0_is : mark0 = [80, 72, 88, 66, 0, 0, 0, 0, 0, 0, 0, 0, 0, 0, 0, 0] := by decide
theorem mark16_row (w : World) : Row (w.alloc mark16) (some ⟨w.heap.size, 0, none⟩) mark0 := by
  have hb : Bytes mark0 := bytes_head0.grownB _
  refine ⟨by rw [length_mark0]; omega, hb, fun _ => ⟨_, _, rfl, by simp, fun i hi => ?_⟩⟩
  rw [length_mark0] at hi
  rw [Nat.zero_add, cell_row (heap_alloc_new w mark16), mark0_is]
  rcases (show i = 0 ∨ i = 1 ∨ i = 2 ∨ i = 3 ∨ i = 4 ∨ i = 5 ∨ i = 6 ∨ i = 7 ∨ i = 8 ∨ i = 9 ∨ i = 10 ∨ i = 11 ∨ i = 12 ∨ i = 13 ∨ i = 14 ∨ i = 15 by omega) with rfl | rfl | rfl | rfl | rfl | rfl | rfl | rfl | rfl | rfl | rfl | rfl | rfl | rfl | rfl | rfl <;> rfl
theorem refFill_256 {w : World} {ao : Option Addr} {m c : Nat} {xs : List Int} (h : Row w ao xs) (hm : xs.length = m) (hs : m ≤ 256) :
    Calls Tryz.prog 123 #[.slice ao m c, .int .i64 256] w fun e w' => ∃ g c', e = .returned (.slice (some ⟨g, 0, none⟩) 256 c') ∧ (w.heap.size ≤ g ∧ 256 ≤ c') ∧ Own w' g (some ⟨g, 0, none⟩) c' (fillB xs 256) ∧ Below w.heap.size w w' := by
  subst hm
  have hl : (fillB xs 256).length = 256 := by rw [length_fillB]; show max 256 _ = 256; omega
  refine (refFill_any ao c xs 256 w h (by omega)).mono ?_
  rintro e w' ⟨bo, c', rfl, hown, hb⟩
  have hle := hown.le
  rcases hown.1.2 with ⟨_, h0⟩ | ⟨g, c'', cur, hv, hg, hh, r⟩
  · omega
  · simp only [Value.slice.injEq] at hv
    obtain ⟨rfl, h2, rfl⟩ := hv
    rw [hl] at hle ⊢
    refine ⟨g, c', rfl, ⟨hg, hle.1⟩, ⟨⟨hown.1.1, .inr ⟨g, c', cur, rfl, Nat.le_refl _, hh, r⟩⟩, hown.2⟩, hb⟩
/-- What BlockBytes answers. -/
def rbPost (e : Int) (rs : List R) (w : World) (r : Ending) (w' : World) : Prop :=
  ((okB e rs = true ∧ ∃ g c, r = .returned (.tuple #[.slice (some ⟨g, 0, none⟩) 256 c, .int .i64 0]) ∧ (w.heap.size ≤ g ∧ 256 ≤ c) ∧ Own w' g (some ⟨g, 0, none⟩) c (blockB e rs)) ∨ (okB e rs = false ∧ r = .returned (.tuple #[.slice none 0 0, .int .i64 102]))) ∧ Below w.heap.size w w'
set_option maxRecDepth 100000 in
set_option maxHeartbeats 4000000 in
theorem rb_out (e : Int) (ao : Option Addr) (n cap : Nat) (w : World) (hn : n ≤ 1000) (ho : ¬ (1 ≤ e ∧ e ≤ 1073741824 ∧ 1 ≤ n ∧ n ≤ 6)) :
    Calls Tryz.prog 68 #[.int .i64 e, .slice ao n cap] w fun r w' => r = .returned (.tuple #[.slice none 0 0, .int .i64 102]) ∧ Below w.heap.size w w' := by
  by_cases h1 : 1 ≤ e ∧ e ≤ 1073741824
  · have H1 : Hid (holdsB 1 1073741824 e = true) := (holdsB_iff _ _ _).2 h1
    have H2 : Hid (holdsB 1 6 (n : Int) = false) := by
      show holdsB 1 6 (n : Int) = false
      cases hh : holdsB 1 6 (n : Int) with
      | false => rfl
      | true => have := (holdsB_iff _ _ _).1 hh; omega
    clear h1 ho
    go_enter Tryz.func68, Tryz.ntmps68
    go_wp2_with fail
    refine (from_any _ _ _ _ _ H1.out).mono ?_
    rintro r x1 ⟨rfl, rfl⟩
    go_wp2_with fail
    refine (from_any _ _ _ _ _ H2.out).mono ?_
    rintro r x2 ⟨rfl, rfl⟩
    go_wp2_with fail
    go_ret2
    exact ⟨rfl, Below.refl _ _⟩
  · have H1 : Hid (holdsB 1 1073741824 e = false) := by
      show holdsB 1 1073741824 e = false
      cases hh : holdsB 1 1073741824 e with
      | false => rfl
      | true => exact absurd ((holdsB_iff _ _ _).1 hh) h1
    clear h1 ho
    go_enter Tryz.func68, Tryz.ntmps68
    go_wp2_with fail
    refine (from_any _ _ _ _ _ H1.out).mono ?_
    rintro r x1 ⟨rfl, rfl⟩
    go_wp2_with fail
    go_ret2
    exact ⟨rfl, Below.refl _ _⟩
theorem refPut_g {w : World} {ao : Option Addr} {l cap : Nat} {xs : List Int} (a s n : Int) (h : Row w ao xs) (hl : xs.length = l) (ha : -9223372036854775808 ≤ a) (ha' : a ≤ 9223372036854775807) (hn : 0 ≤ n) (hn' : n ≤ 18446744073709551615) :
    Calls Tryz.prog 121 #[.slice ao l cap, .int .i64 a, .int .i64 s, .int .u64 n] w fun e w' => ∃ g, e = .returned (.slice (some ⟨g, 0, none⟩) l l) ∧ w.heap.size ≤ g ∧ Own w' g (some ⟨g, 0, none⟩) l (putB xs a n (widthB s).toNat) ∧ Below w.heap.size w w' :=
  (refPut_len l cap ao xs a s n w h hl ha ha' hn hn').mono fun e w' h => ⟨_, h.1, Nat.le_refl _, h.2.1, h.2.2⟩
set_option maxRecDepth 100000 in
set_option maxHeartbeats 4000000 in
theorem rb_in (e : Int) (ao : Option Addr) (n cap : Nat) (rs : List R) (w : World) (h : RecRow w ao rs) (hn : rs.length = n) (he0 : 1 ≤ e) (he1 : e ≤ 1073741824) (hn0 : 1 ≤ n) (hn1 : n ≤ 6) :
    Calls Tryz.prog 68 #[.int .i64 e, .slice ao n cap] w (rbPost e rs w) := by
  obtain ⟨b, off, rfl, hc⟩ := h.2 (by omega)
  have HC := hide hc
  have HN := hide hn
  have H1 : Hid (holdsB 1 1073741824 e = true) := (holdsB_iff _ _ _).2 ⟨he0, he1⟩
  have H2 : Hid (holdsB 1 6 (n : Int) = true) := (holdsB_iff _ _ _).2 ⟨by omega, by omega⟩
  have HM1 : Hid (∀ wp B C ao, Own wp B ao C (putB mark0 4 e (widthB 4).toNat) → Own wp B ao C (mark1 e)) := fun _ _ _ _ h => h
  have HM2 : Hid (∀ wp B C ao, Own wp B ao C (putB (mark1 e) 8 n (widthB 2).toNat) → Own wp B ao C (headB e n)) := fun _ _ _ _ h => h
  have HR := hide (mark16_row w)
  have HB := hide (below_box w mark16)
  unfold mark16 at HR HB
  clear hc hn h
  go_enter Tryz.func68, Tryz.ntmps68
  go_wp2_with fail
  refine (from_any _ _ _ _ _ H1.out).mono ?_
  rintro r x1 ⟨rfl, rfl⟩
  go_wp2_with fail
  refine (from_any _ _ _ _ _ H2.out).mono ?_
  rintro r x2 ⟨rfl, rfl⟩
  go_wp2_with fail
  refine (refPut_g _ _ e HR.out length_mark0 (by omega) (by omega) (by omega) (by omega)).mono ?_
  rintro r w2 ⟨g2, rfl, hg2, hown, hb⟩
  have HO := hide (HM1.out _ _ _ _ hown)
  have HB2 := hide (over HB.out hb HB.out.size)
  clear hg2 hown hb HB HR
  go_wp2_with fail
  refine (refPut_g _ _ (n : Int) HO.out.row (length_mark1 e) (by omega) (by omega) (by omega) (by omega)).mono ?_
  rintro r w3 ⟨g3, rfl, hg3, hown, hb⟩
  have HO3 := hide ((HM2.out _ _ _ _ hown).mono (Nat.le_trans HB2.out.size hg3))
  have HB := hide (over HB2.out hb HB2.out.size)
  clear hg3 hown hb HB2 HO
  go_wp2_with fail
  go_loopw [6, 7] (fun v i wr => ∃ k : Nat, k ≤ n ∧ i = .int .i64 k ∧ ∃ ao c m, m = 16 + 40 * k ∧ v = .slice ao m c ∧ Own wr x2.heap.size ao c (headB e n ++ recsB (rs.take k)) ∧ Below x2.heap.size x2 wr ∧ ∀ r ∈ rs.take k, goodB r = true) (fun _ i _ => n - (intOf i).toNat)
  case atStart => exact ⟨0, by omega, rfl, _, _, 16, rfl, rfl, by simpa [recsB] using HO3.out, HB.out, fun r hr => by simp at hr⟩
  case round =>
    clear HO3 HB
    obtain ⟨k, hk, rfl, ao, c, m, hm, rfl, hown, hbel, hgood⟩ := hrel
    have HO := hide hown
    have HB := hide hbel
    have HG := hide hgood
    have HM := hide hm
    have hm2 : m ≤ 256 := by omega
    clear hown hbel hgood hm
    by_cases hlt : k < n
    · obtain ⟨r, hr⟩ : ∃ r, rs[k]? = some r := ⟨rs[k]'(by rw [HN.out]; exact hlt), List.getElem?_eq_getElem _⟩
      have HR := hide hr
      have hcr := (HC.out k r hr).of_block (HB.out.block b (HC.out k r hr).lt) HB.out.size
      have hki : (k : Int) < (n : Int) := by omega
      clear hr
      obtain ⟨k0, k1, k2, k3, k4, k5, k6, k7, k8, k9, kl⟩ := hcr
      clear kl
      go_wp2_with fail
      clear k0 k1 k2 k3 k4 k5 k6 k7 k8 k9
      refine (goodRec_any r _).mono ?_
      rintro r' w4 ⟨rfl, hb4⟩
      replace HO := hide (HO.out.below hb4 (Nat.le_refl _))
      replace HB := hide (over HB.out hb4 HB.out.size)
      clear hb4
      cases hgr : goodB r with
      | true =>
        have hcr := (HC.out k r HR.out).of_block (HB.out.block b (HC.out k r HR.out).lt) HB.out.size
        obtain ⟨k0, k1, k2, k3, k4, k5, k6, k7, k8, k9, kl⟩ := hcr
        clear kl
        go_wp2_with (first | (go_at_call 122; refine (refBytes_good r _ hgr).mono ?_; rintro r' w5 ⟨g5, rfl, hg5, hown5, hb5⟩; have HO5 := hide hown5; replace HO := hide (HO.out.below hb5 (Nat.le_refl _)); replace HB := hide (over HB.out hb5 HB.out.size); clear hg5 hown5 hb5) | (at_builtin; refine append_two rfl (.tmp 39) (.tmp 44) rfl x2.heap.size ao c m (headB e n ++ recsB (rs.take k)) rfl (by rw [List.length_append, length_headB, length_recsB, List.length_take, HN.out, HM.out, Nat.min_eq_left hk]) HO.out g5 40 40 (recB r) rfl (length_recB r) HO5.out.row (by omega) HB.out.size ?_; intro ao6 c6 w6 hown6 hb6; have HO6 := hide hown6; have HB6 := hide hb6; clear hown6 hb6))
        go_roundw
        case rel =>
          have hM := HM.out
          refine ⟨k + 1, by omega, by go_num, ao6, c6, m + 40, by omega, rfl, ?_, HB.out.trans HB6.out, take_good HG.out HR.out hgr⟩
          rw [recsB_snoc rs k r HR.out, ← List.append_assoc]
          exact HO6.out
        case measure => simp [intOf]; omega
      | false =>
        go_wp2_with fail
        go_ret2
        exact ⟨.inr ⟨okB_no HR.out hgr, rfl⟩, HB.out⟩
    · have hki : decide ((k : Int) < (n : Int)) = false := by simp; omega
      go_wp2_with fail
      refine (refFill_256 (m := m) HO.out.row (by rw [List.length_append, length_headB, length_recsB, List.length_take, HN.out, HM.out, Nat.min_eq_left hk]) hm2).mono ?_
      rintro r' w4 ⟨g4, c4, rfl, hg4, hown4, hb4⟩
      have HO4 := hide hown4
      have HS := hide (And.intro (Nat.le_trans HB.out.size hg4.1) hg4.2)
      replace HB := hide (over HB.out hb4 HB.out.size)
      clear hown4 hb4 hg4
      go_wp2_with fail
      go_ret2
      have hkn : k = n := by omega
      have hN := HN.out
      have hG := HG.out
      have hO := HO4.out
      rw [hkn, ← hN, List.take_length] at hG hO
      exact ⟨.inl ⟨(okB_iff e rs).2 ⟨⟨he0, he1, by omega, by omega⟩, hG⟩, g4, c4, rfl, HS.out, hO⟩, HB.out⟩
theorem rb_any (e : Int) (ao : Option Addr) (n cap : Nat) (rs : List R) (w : World) (h : RecRow w ao rs) (hn : rs.length = n) :
    Calls Tryz.prog 68 #[.int .i64 e, .slice ao n cap] w (rbPost e rs w) := by
  by_cases ho : 1 ≤ e ∧ e ≤ 1073741824 ∧ 1 ≤ n ∧ n ≤ 6
  · exact rb_in e ao n cap rs w h hn ho.1 ho.2.1 ho.2.2.1 ho.2.2.2
  · refine (rb_out e ao n cap w (by have := h.1; omega) ho).mono fun r w' hh => ⟨.inr ⟨?_, hh.1⟩, hh.2⟩
    unfold okB
    rw [Bool.and_eq_false_iff, hn]
    exact .inl (decide_eq_false ho)
end Go.Proofs.YtjacenhblclkaaaGreatDoor
