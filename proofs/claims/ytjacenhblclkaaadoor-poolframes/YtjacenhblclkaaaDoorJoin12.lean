/- Lemmas and contracts that the law stands on, joined: BlockBytes. -/
import Derived.Test.YtjacenhblclkaaaDoorJoin11
import Derived.Test.YtjacenhblclkaaaDoorJoin4
import Derived.Test.YtjacenhblclkaaaDoorJoin8
/- What block.Bytes answers: ErrRange of a block that may not be; else its bytes, in new memory; nothing that was there is written. -/
namespace Go.Proofs.YtjacenhblclkaaaDoor
open Go.RowKit
set_option linter.unusedVariables false

theorem mark_row (w : World) : Row (w.alloc (.cells #[.int .u8 80, .int .u8 72, .int .u8 88, .int .u8 66] 5)) (some ⟨w.heap.size, 0, none⟩) [80, 72, 88, 66] := by
  refine ⟨by simp, bytes_head0, fun _ => ⟨_, _, rfl, by simp, fun i hi => ?_⟩⟩
  have hi4 : i < 4 := hi
  rw [Nat.zero_add, cell_row (heap_alloc_new w (.cells #[.int .u8 80, .int .u8 72, .int .u8 88, .int .u8 66] 5))]
  rcases (show i = 0 ∨ i = 1 ∨ i = 2 ∨ i = 3 by omega) with rfl | rfl | rfl | rfl <;> rfl
def mark0 : List Int := fillB [80, 72, 88, 66] 16
def mark1 (e : Int) : List Int := putB mark0 4 e 4
theorem length_mark0 : mark0.length = 16 := by rw [mark0, length_fillB]; rfl
theorem length_mark1 (e : Int) : (mark1 e).length = 16 := by rw [mark1, length_putB, length_mark0]
theorem fill_mark (g : Nat) (w : World) (h : Row w (some ⟨g, 0, none⟩) [80, 72, 88, 66]) :
    Calls Tryd.prog 74 #[.slice (some ⟨g, 0, none⟩) 4 4, .int .i64 16] w fun e w' => ∃ g, e = .returned (.slice (some ⟨g, 0, none⟩) 16 16) ∧ Own w' g (some ⟨g, 0, none⟩) 16 mark0 ∧ Below w.heap.size w w' := by
  have h1 := fill_any (some ⟨g, 0, none⟩) 4 [80, 72, 88, 66] 16 w h (by omega)
  rw [show (fillB [80, 72, 88, 66] 16).length = 16 from length_mark0] at h1
  exact h1.mono fun e w' h => ⟨_, h⟩
set_option maxHeartbeats 400000 in
theorem head_any (e n : Int) (w : World) (he0 : 1 ≤ e) (he1 : e ≤ 1073741824) (hn0 : 0 ≤ n) (hn1 : n ≤ 6) :
    Calls Tryd.prog 109 #[.int .i64 e, .int .i64 n] w fun r w' => ∃ g, r = .returned (.slice (some ⟨g, 0, none⟩) 16 16) ∧ w.heap.size ≤ g ∧ Own w' g (some ⟨g, 0, none⟩) 16 (headB e n) ∧ Below w.heap.size w w' := by
  have HR := hide (mark_row w)
  have HB := hide (below_box w (.cells #[.int .u8 80, .int .u8 72, .int .u8 88, .int .u8 66] 5))
  have H1 : Hid (∀ wp B C ao, Own wp B ao C (putB mark0 4 e (widthB 4).toNat) → Own wp B ao C (mark1 e)) := fun _ _ _ _ h => h
  have H2 : Hid (∀ wp B C ao, Own wp B ao C (putB (mark1 e) 8 n (widthB 2).toNat) → Own wp B ao C (headB e n)) := fun _ _ _ _ h => h
  go_enter Tryd.func109, Tryd.ntmps109
  go_wp2_with fail
  refine (fill_mark _ _ HR.out).mono ?_
  rintro r w1 ⟨g1, rfl, hown, hb⟩
  have HO := hide hown
  replace HB := hide (over HB.out hb HB.out.size)
  clear hown hb HR
  go_wp2_with fail
  refine (bytes_len 16 16 _ mark0 _ _ e _ HO.out.row length_mark0 (by omega) (by omega) (by omega) (by omega)).mono ?_
  rintro r w2 ⟨rfl, hown, hb⟩
  replace HO := hide (H1.out _ _ _ _ hown)
  replace HB := hide (over HB.out hb HB.out.size)
  have HS := hide HB.out.size
  clear hown hb
  go_wp2_with fail
  refine (bytes_len 16 16 _ (mark1 e) _ _ n _ HO.out.row (length_mark1 e) (by omega) (by omega) (by omega) (by omega)).mono ?_
  rintro r w3 ⟨rfl, hown, hb⟩
  replace HO := hide (H2.out _ _ _ _ hown)
  replace HB := hide (over HB.out hb HB.out.size)
  clear hown hb
  go_wp2_with fail
  go_ret
  exact ⟨_, rfl, HS.out, HO.out, HB.out⟩
theorem rows_of_two {w : World} {a b : Part} (ha : a.isIn w) (hb : b.isIn w) : Rows2 (w.alloc (.cells #[a.val, b.val] 44)) (some ⟨w.heap.size, 0, none⟩) [a, b] := by
  have hbel := below_box w (.cells #[a.val, b.val] 44)
  refine ⟨by simp, fun p hp => ?_, fun _ => ⟨_, _, rfl, by simp, fun i hi => ?_⟩⟩
  · simp only [List.mem_cons, List.not_mem_nil, or_false] at hp
    rcases hp with rfl | rfl
    · exact ⟨ha.1.below hbel (Nat.le_refl _), ha.2⟩
    · exact ⟨hb.1.below hbel (Nat.le_refl _), hb.2⟩
  · have hi2 : i < 2 := hi
    rw [Nat.zero_add, cell_row (heap_alloc_new w (.cells #[a.val, b.val] 44))]
    rcases (show i = 0 ∨ i = 1 by omega) with rfl | rfl <;> rfl
theorem part_of_own {w : World} {B : Nat} {ao : Option Addr} {c : Nat} {xs : List Int} (h : Own w B ao c xs) : Part.isIn w ⟨ao, c, xs⟩ := by
  refine ⟨h.row, fun e => ?_⟩
  rcases h.le.2 with ⟨_, h2, h3⟩ | ⟨g, hg⟩
  · exact ⟨h2, h3⟩
  · simp only at e; rw [e] at hg; cases hg
/-- Two lists joined, as a call has them. -/
theorem join_two {w : World} {B C : Nat} {ao bo : Option Addr} {c c' n m : Nat} {xs ys : List Int} (N : Nat) (h : Own w B ao c xs) (h' : Own w C bo c' ys) (hn : xs.length = n) (hm : ys.length = m) (hN : n + m = N) (hs : N ≤ 1000) :
    Calls Tryd.prog 111 #[.slice (some ⟨w.heap.size, 0, none⟩) 2 2] (w.alloc (.cells #[.slice ao n c, .slice bo m c'] 44)) fun e w' => ∃ ao c, e = .returned (.slice ao N c) ∧ Own w' w.heap.size ao c (xs ++ ys) ∧ Below w.heap.size w w' := by
  subst hn; subst hm; subst hN
  have e : joinB [⟨ao, c, xs⟩, ⟨bo, c', ys⟩] = xs ++ ys := by simp [joinB]
  have h2 := join_len (some ⟨w.heap.size, 0, none⟩) 2 2 [⟨ao, c, xs⟩, ⟨bo, c', ys⟩] _ (rows_of_two (part_of_own h) (part_of_own h')) rfl (by rw [e, List.length_append]; omega)
  rw [e] at h2
  refine h2.mono ?_
  rintro r w' ⟨ao', c'', rfl, hown, hb⟩
  have hbel := below_box w (.cells #[.slice ao xs.length c, .slice bo ys.length c'] 44)
  refine ⟨ao', c'', by rw [List.length_append], hown.mono hbel.size, over hbel hb hbel.size⟩
theorem fill_256 {w : World} {ao : Option Addr} {m c : Nat} {xs : List Int} (h : Row w ao xs) (hm : xs.length = m) (hs : m ≤ 256) :
    Calls Tryd.prog 74 #[.slice ao m c, .int .i64 256] w fun e w' => ∃ g, e = .returned (.slice (some ⟨g, 0, none⟩) 256 256) ∧ w.heap.size ≤ g ∧ Own w' g (some ⟨g, 0, none⟩) 256 (fillB xs 256) ∧ Below w.heap.size w w' := by
  have h1 := fill_len ao m c xs 256 w h hm (by omega)
  rw [show max (256 : Int).toNat m = 256 by show max 256 m = 256; omega] at h1
  exact h1.mono fun e w' h => ⟨_, h.1, Nat.le_refl _, h.2.1, h.2.2⟩
/-- What block.Bytes answers. -/
def bbPost (e : Int) (rs : List R) (x : Addr) (w : World) (r : Ending) (w' : World) : Prop :=
  ((okB e rs = true ∧ ∃ g, r = .returned (.tuple #[.slice (some ⟨g, 0, none⟩) 256 256, .nilIface]) ∧ w.heap.size ≤ g ∧ Own w' g (some ⟨g, 0, none⟩) 256 (blockB e rs)) ∨ (okB e rs = false ∧ r = .returned (.tuple #[.slice none 0 0, errV x]))) ∧ Below w.heap.size w w'
set_option maxRecDepth 100000 in
set_option maxHeartbeats 4000000 in
theorem bb_out (e : Int) (ao : Option Addr) (n cap : Nat) (w : World) (x : Addr) (hE : w.cell? ⟨0, 0, none⟩ = some (errV x)) (hn : n ≤ 1000) (ho : ¬ (1 ≤ e ∧ e ≤ 1073741824 ∧ 1 ≤ n ∧ n ≤ 6)) :
    Calls Tryd.prog 101 #[.int .i64 e, .slice ao n cap] w fun r w' => r = .returned (.tuple #[.slice none 0 0, errV x]) ∧ Below w.heap.size w w' := by
  unfold errV at *
  have h4 : e < 1 ∨ (1 ≤ e ∧ 1073741824 < e) ∨ (1 ≤ e ∧ e ≤ 1073741824 ∧ n = 0) ∨ (1 ≤ e ∧ e ≤ 1073741824 ∧ 1 ≤ n ∧ 6 < n) := by omega
  clear ho
  rcases h4 with h | ⟨h1, h2⟩ | ⟨h1, h2, rfl⟩ | ⟨h1, h2, h3, h4⟩
  all_goals
    go_enter Tryd.func101, Tryd.ntmps101
    go_wp2_with fail
    go_quiet (fail)
    go_wp2_with fail
    go_ret2
    exact ⟨rfl, below_drewN (Below.refl _ _) _⟩
theorem take_good {rs : List R} {k : Nat} {r : R} (h : ∀ x ∈ rs.take k, goodB x = true) (hr : rs[k]? = some r) (hg : goodB r = true) : ∀ x ∈ rs.take (k + 1), goodB x = true := by
  intro x hx
  rw [List.take_add_one, hr] at hx
  rcases List.mem_append.1 hx with h1 | h1
  · exact h x h1
  · simp at h1; subst h1; exact hg
theorem okB_no {e : Int} {rs : List R} {k : Nat} {r : R} (hr : rs[k]? = some r) (hg : goodB r = false) : okB e rs = false := by
  unfold okB
  rw [Bool.and_eq_false_iff]
  refine .inr ?_
  rw [List.all_eq_false]
  exact ⟨r, List.mem_of_getElem? hr, by rw [hg]; simp⟩
set_option maxRecDepth 100000 in
set_option maxHeartbeats 4000000 in
theorem bb_in (e : Int) (ao : Option Addr) (n cap : Nat) (rs : List R) (w : World) (x : Addr) (hE : w.cell? ⟨0, 0, none⟩ = some (errV x)) (h : RecRow w ao rs) (hn : rs.length = n) (he0 : 1 ≤ e) (he1 : e ≤ 1073741824) (hn0 : 1 ≤ n) (hn1 : n ≤ 6) :
    Calls Tryd.prog 101 #[.int .i64 e, .slice ao n cap] w (bbPost e rs x w) := by
  obtain ⟨b, off, rfl, hc⟩ := h.2 (by omega)
  have HC := hide hc
  have HN := hide hn
  have HE := hide hE
  clear hc hn hE h
  go_enter Tryd.func101, Tryd.ntmps101
  go_wp2_with fail
  refine (head_any e n _ he0 he1 (by omega) (by omega)).mono ?_
  rintro r w1 ⟨g, rfl, hg, hown, hb⟩
  have HO := hide (hown.mono hg)
  have HB := hide hb
  clear hg hown hb
  go_wp2_with fail
  go_loopw [6, 34] (fun v i wr => ∃ k : Nat, k ≤ n ∧ i = .int .i64 k ∧ ∃ ao c m, m = 16 + 40 * k ∧ v = .slice ao m c ∧ Own wr w.heap.size ao c (headB e n ++ recsB (rs.take k)) ∧ Below w.heap.size w wr ∧ ∀ r ∈ rs.take k, goodB r = true) (fun _ i _ => n - (intOf i).toNat)
  case atStart => exact ⟨0, by omega, rfl, _, _, 16, rfl, rfl, by simpa [recsB] using HO.out, HB.out, fun r hr => by simp at hr⟩
  case round =>
    clear HO HB
    obtain ⟨k, hk, rfl, ao, c, m, hm, rfl, hown, hbel, hgood⟩ := hrel
    have HO := hide hown
    have HB := hide hbel
    have HG := hide hgood
    have HM := hide hm
    have hm2 : m ≤ 256 := by omega
    clear hown hbel hgood hm
    by_cases hlt : k < n
    · obtain ⟨r, hr⟩ : ∃ r, rs[k]? = some r := ⟨rs[k]'(by rw [HN.out]; exact hlt), List.getElem?_eq_getElem _⟩
      have HR := hide hr
      have hcr := (HC.out k r hr).of_block (HB.out.block b (HC.out k r hr).lt) HB.out.size
      have hki : (k : Int) < (n : Int) := by omega
      clear hr
      obtain ⟨k0, k1, k2, k3, k4, k5, k6, k7, k8, k9, kl⟩ := hcr
      have HL := hide kl
      clear kl
      have HB1 := hide (below_box wr (recCells r))
      have HB2 := hide (over HB.out HB1.out HB.out.size)
      unfold recCells at HB1 HB2
      cases hgr : goodB r with
      | true =>
        go_wp2_with fail
        refine (recBytes_good r _ x ((HB2.out.cell (World.block_lt_of_cell? w _ HE.out)).trans HE.out) hgr).mono ?_
        rintro r' w2 ⟨g2, rfl, hg2, hown2, hb2⟩
        replace HO := hide ((HO.out.below HB1.out (Nat.le_refl _)).below hb2 (Nat.le_refl _))
        have HO2 := hide hown2
        replace HB := hide (over HB2.out hb2 HB2.out.size)
        clear hg2 hown2 hb2 HB1 HB2 k0 k1 k2 k3 k4 k5 k6 k7 k8 k9
        go_wp2_with fail
        refine (join_two (m + 40) HO.out HO2.out (by rw [List.length_append, length_headB, length_recsB, List.length_take, HN.out, HM.out, Nat.min_eq_left hk]) (length_recB r) rfl (by omega)).mono ?_
        rintro r' w3 ⟨ao3, c3, rfl, hown3, hb3⟩
        have HO3 := hide hown3
        have HS := hide HB.out.size
        replace HB := hide (over HB.out hb3 HB.out.size)
        clear hown3 hb3
        go_wp2_with fail
        go_roundw
        case rel =>
          have hM := HM.out
          refine ⟨k + 1, by omega, by go_num, ao3, c3, m + 40, by omega, rfl, ?_, HB.out, take_good HG.out HR.out hgr⟩
          rw [recsB_snoc rs k r HR.out, ← List.append_assoc]
          exact HO3.out.mono HS.out
        case measure => simp [intOf]; omega
      | false =>
        go_wp2_with fail
        refine (recBytes_bad r _ x ((HB2.out.cell (World.block_lt_of_cell? w _ HE.out)).trans HE.out) hgr).mono ?_
        rintro r' w2 ⟨rfl, hb2⟩
        replace HB := hide (over HB2.out hb2 HB2.out.size)
        clear hb2 HB1 HB2 k0 k1 k2 k3 k4 k5 k6 k7 k8 k9
        unfold errV
        go_wp2_with fail
        go_ret2
        exact ⟨.inr ⟨okB_no HR.out hgr, rfl⟩, HB.out⟩
    · go_wp2_with fail
      refine (fill_256 (m := m) HO.out.row (by rw [List.length_append, length_headB, length_recsB, List.length_take, HN.out, HM.out, Nat.min_eq_left hk]) hm2).mono ?_
      rintro r' w2 ⟨g2, rfl, hg2, hown2, hb2⟩
      have HO2 := hide hown2
      have HS := hide (Nat.le_trans HB.out.size hg2)
      replace HB := hide (over HB.out hb2 HB.out.size)
      clear hown2 hb2 hg2
      go_wp2_with fail
      go_ret2
      have hkn : k = n := by omega
      have hN := HN.out
      have hG := HG.out
      have hO := HO2.out
      rw [hkn, ← hN, List.take_length] at hG hO
      exact ⟨.inl ⟨(okB_iff e rs).2 ⟨⟨he0, he1, by omega, by omega⟩, hG⟩, g2, rfl, HS.out, hO⟩, HB.out⟩
theorem bb_any (e : Int) (ao : Option Addr) (n cap : Nat) (rs : List R) (w : World) (x : Addr) (hE : w.cell? ⟨0, 0, none⟩ = some (errV x)) (h : RecRow w ao rs) (hn : rs.length = n) :
    Calls Tryd.prog 101 #[.int .i64 e, .slice ao n cap] w (bbPost e rs x w) := by
  by_cases ho : 1 ≤ e ∧ e ≤ 1073741824 ∧ 1 ≤ n ∧ n ≤ 6
  · exact bb_in e ao n cap rs w x hE h hn ho.1 ho.2.1 ho.2.2.1 ho.2.2.2
  · refine (bb_out e ao n cap w x hE (by have := h.1; omega) ho).mono fun r w' hh => ⟨.inr ⟨?_, hh.1⟩, hh.2⟩
    unfold okB
    rw [Bool.and_eq_false_iff, hn]
    exact .inl (decide_eq_false ho)
theorem bb_ok {e : Int} {ao : Option Addr} {n cap : Nat} {rs : List R} {w : World} {x : Addr} (hE : w.cell? ⟨0, 0, none⟩ = some (errV x)) (h : RecRow w ao rs) (hn : rs.length = n) (ho : okB e rs = true) :
    Calls Tryd.prog 101 #[.int .i64 e, .slice ao n cap] w fun r w' => ∃ g, r = .returned (.tuple #[.slice (some ⟨g, 0, none⟩) 256 256, .nilIface]) ∧ w.heap.size ≤ g ∧ Own w' g (some ⟨g, 0, none⟩) 256 (blockB e rs) ∧ Below w.heap.size w w' := by
  refine (bb_any e ao n cap rs w x hE h hn).mono ?_
  rintro r w' ⟨⟨_, g, rfl, h1, h2⟩ | ⟨h1, _⟩, hb⟩
  · exact ⟨g, rfl, h1, h2, hb⟩
  · rw [ho] at h1; cases h1
theorem bb_no {e : Int} {ao : Option Addr} {n cap : Nat} {rs : List R} {w : World} {x : Addr} (hE : w.cell? ⟨0, 0, none⟩ = some (errV x)) (h : RecRow w ao rs) (hn : rs.length = n) (ho : okB e rs = false) :
    Calls Tryd.prog 101 #[.int .i64 e, .slice ao n cap] w fun r w' => r = .returned (.tuple #[.slice none 0 0, errV x]) ∧ Below w.heap.size w w' := by
  refine (bb_any e ao n cap rs w x hE h hn).mono ?_
  rintro r w' ⟨⟨h1, _⟩ | ⟨h1, rfl⟩, hb⟩
  · rw [ho] at h1; cases h1
  · exact ⟨rfl, hb⟩
end Go.Proofs.YtjacenhblclkaaaDoor
