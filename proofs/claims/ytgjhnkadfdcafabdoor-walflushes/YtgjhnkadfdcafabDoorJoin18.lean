/- Lemmas and contracts that the law stands on, joined: BlockMake. -/
import Derived.Test.YtgjhnkadfdcafabDoorJoin10
import Derived.Test.YtgjhnkadfdcafabDoorJoin17
/- What phoenixmake.Recs makes out of a list of numbers: records that may be, in a list of their own; only the list's own counter is written besides. -/
namespace Go.Proofs.YtgjhnkadfdcafabDoor
open Go.RowKit
set_option linter.unusedVariables false

theorem next_but (s : Nat) (lo : Option Addr) (len cap : Nat) (zs : List Int) (n : Nat) (m : Int) (w : World) (h : SeqAt w s lo len cap zs n) (h0 : 0 < m) (h1 : m ≤ 100000) (hn : n < 1000) :
    Calls Tryd.prog 21 #[.pointer (some ⟨s, 0, none⟩), .int .i64 m] w fun e w' => ∃ k : Nat, e = .returned (.int .i64 k) ∧ (k : Int) < m ∧ SeqAt w' s lo len cap zs (n + 1) ∧ But s w w' := by
  refine (next_any s lo len cap zs n m w h h0 h1).mono ?_
  rintro e w' ⟨k, q, rfl, hk, rfl⟩
  refine ⟨k.toNat, by rw [Int.toNat_of_nonneg hk.1], by rw [Int.toNat_of_nonneg hk.1]; exact hk.2, h.next (by omega) q, But.set s w 1 _ q⟩
theorem SeqAt.under {w w' : World} {B s : Nat} {lo : Option Addr} {len cap : Nat} {zs : List Int} {n : Nat} (h : SeqAt w s lo len cap zs n) (hb : Below B w w') (hs : s < B) : SeqAt w' s lo len cap zs n := by
  refine ⟨by rw [hb.block s hs]; exact h.lies, fun i hi => ?_, h.small⟩
  obtain ⟨b, off, e, hbs, hc⟩ := h.row i hi
  exact ⟨b, off, e, hbs, (hb.cell (show b < B by omega)).trans hc⟩
set_option maxRecDepth 100000 in
set_option maxHeartbeats 2000000 in
theorem recs_any (most : Int) (hm0 : 0 ≤ most) (hm1 : most ≤ 8) (n0 : Nat) (hn0 : n0 ≤ 100) (s : Nat) (lo : Option Addr) (len cap : Nat) (zs : List Int) (w : World) (h : SeqAt w s lo len cap zs n0) :
    Calls Tryd.prog 7 #[.pointer (some ⟨s, 0, none⟩), .int .i64 most] w fun e w' => ∃ ao c k, ∃ rs : List R, e = .returned (.slice ao k c) ∧ rs.length = k ∧ (k : Int) ≤ most ∧ OwnR w' w.heap.size ao c rs ∧ (∀ r ∈ rs, goodB r = true ∧ r.fits) ∧ (∃ n1, n1 ≤ n0 + 100 ∧ SeqAt w' s lo len cap zs n1) ∧ But s w w' := by
  have HS := hide h
  have HL : Hid (s < w.heap.size) := lt_of_block h.lies
  clear h
  go_enter Tryd.func7, Tryd.ntmps7
  go_wp2_with fail
  refine (next_but s lo len cap zs n0 _ _ HS.out (by omega) (by omega) (by omega)).mono ?_
  rintro e w1 ⟨j0, rfl, hj0, hS, hB⟩
  have HS1 := hide hS
  have HB1 := hide hB
  clear hS hB
  have hj1 : j0 ≤ 8 := by omega
  have hj2 : (j0 : Int) ≤ most := by omega
  clear hj0
  go_wp2_with fail
  go_loopw [5, 6] (fun v i wr => ∃ j k n1 : Nat, ∃ ao c, ∃ rs : List R, i = .int .i64 j ∧ k + j = j0 ∧ n1 ≤ n0 + 1 + 10 * k ∧ v = .slice ao k c ∧ rs.length = k ∧ OwnR wr w.heap.size ao c rs ∧ (∀ r ∈ rs, goodB r = true ∧ r.fits) ∧ SeqAt wr s lo len cap zs n1 ∧ But s w wr) (fun _ i _ => (intOf i).toNat)
  case atStart => exact ⟨j0, 0, n0 + 1, none, 0, [], rfl, by omega, by omega, rfl, rfl, ownR_nil _ _, fun r hr => by simp at hr, HS1.out, HB1.out⟩
  case round =>
    clear HS1 HB1
    obtain ⟨j, k, n1, ao, c, rs, rfl, hjk, hn1, rfl, hk, hown, hgood, hS, hB⟩ := hrel
    have HO := hide hown
    have HG := hide hgood
    have HS1 := hide hS
    have HB1 := hide hB
    have HK := hide hk
    clear hown hgood hS hB hk
    by_cases hj : 0 < j
    · obtain ⟨i, rfl⟩ : ∃ i, j = i + 1 := ⟨j - 1, by omega⟩
      have hji : (0 : Int) < ((i + 1 : Nat) : Int) := by omega
      go_wp2_with (first | (go_at_call 22; refine (make_from n1 (by omega) s lo len cap zs _ HS1.out).mono ?_; rintro e w2 ⟨r, rfl, hg, hf, ⟨n2, hn2, hS2⟩, hB2⟩; have HS2 := hide hS2; have HB2 := hide (HB1.out.trans hB2); have HO2 := hide (HO.out.but hB2 HL.out); have HGR := hide (And.intro hg hf); clear hS2 hB2 hg hf) | (refine build1 r rfl ?_) | (at_builtin; refine append1 w.heap.size ao k c rs r rfl HK.out HO2.out (by omega) (by first | rfl | (simp; rfl)) HB2.out.size ?_; intro ao3 c3 w3 hown3 hb3; have HO3 := hide hown3; have HB3 := hide hb3; clear hown3 hb3))
      go_roundw
      case rel =>
        refine ⟨i, k + 1, n2, ao3, c3, rs ++ [r], by go_num, by omega, by omega, rfl, by rw [List.length_append, HK.out]; rfl, HO3.out, ?_, ?_, HB2.out.over HB3.out⟩
        · intro x hx
          rcases List.mem_append.1 hx with h1 | h1
          · exact HG.out x h1
          · simp at h1; subst h1; exact HGR.out
        · exact HS2.out.under HB3.out HL.out
      case measure => simp [intOf]
    · have hji : decide ((0 : Int) < (j : Int)) = false := by simp; omega
      go_wp2_with fail
      go_ret
      exact ⟨ao, c, k, rs, rfl, HK.out, by omega, HO.out, HG.out, ⟨n1, by omega, HS1.out⟩, HB1.out⟩
/-- A list of numbers that came in, made the source of records. -/
theorem seq_at {w x : World} {lo : Option Addr} {len cap : Nat} {zs : List Int} (h : IsRow .i64 w lo len cap zs) (hl : len ≤ 150) (hb : Below w.heap.size w x) : SeqAt (x.alloc (.cells #[.slice lo len cap, .int .i64 0] 30)) x.heap.size lo len cap zs 0 := seq_new h hl hb
set_option maxHeartbeats 400000 in
theorem number_big (n m : Int) (w : World) (h0 : 0 < m) (h1 : m ≤ 2000000000) : Calls Tryd.prog 8 #[.int .i64 n, .int .i64 m] w fun e w' => e = .returned (.int .i64 (numberB n m)) ∧ w' = w := by
  obtain ⟨t1, t2, t3, t4⟩ := tmod_cases n m h0
  have hne : (m == 0) = false := by simp; omega
  have hm1 : m ≠ 0 := by omega
  go_enter Tryd.func8, Tryd.ntmps8
  go_wp2
  all_goals
    go_ret
  · exact ⟨ret_int rfl, rfl⟩
  · exact ⟨ret_int (t2 (by assumption)), rfl⟩
end Go.Proofs.YtgjhnkadfdcafabDoor
