/- Lemmas and contracts that the law stands on, joined: BlockMake. -/
import Derived.Test.YtjacenhblclkaaaGreatDoorJoin12
import Derived.Test.YtjacenhblclkaaaGreatDoorJoin9
/- What phoenixmake.Recs makes out of a list of numbers: records that may be, in a list of their own; only the list's own counter is written besides. -/
namespace Go.Proofs.YtjacenhblclkaaaGreatDoor
open Go.RowKit
set_option linter.unusedVariables false

theorem next_but (s : Nat) (lo : Option Addr) (len cap : Nat) (zs : List Int) (n : Nat) (m : Int) (w : World) (h : SeqAt w s lo len cap zs n) (h0 : 0 < m) (h1 : m ≤ 100000) (hn : n < 1000) :
    Calls Tryz.prog 12 #[.pointer (some ⟨s, 0, none⟩), .int .i64 m] w fun e w' => ∃ k : Nat, e = .returned (.int .i64 k) ∧ (k : Int) < m ∧ SeqAt w' s lo len cap zs (n + 1) ∧ But s w w' := by
  refine (next_any s lo len cap zs n m w h h0 h1).mono ?_
  rintro e w' ⟨k, q, rfl, hk, rfl⟩
  refine ⟨k.toNat, by rw [Int.toNat_of_nonneg hk.1], by rw [Int.toNat_of_nonneg hk.1]; exact hk.2, h.next (by omega) q, But.set s w 1 _ q⟩
theorem SeqAt.under {w w' : World} {B s : Nat} {lo : Option Addr} {len cap : Nat} {zs : List Int} {n : Nat} (h : SeqAt w s lo len cap zs n) (hb : Below B w w') (hs : s < B) : SeqAt w' s lo len cap zs n := by
  refine ⟨by rw [hb.block s hs]; exact h.lies, fun i hi => ?_, h.small⟩
  obtain ⟨b, off, e, hbs, hc⟩ := h.row i hi
  exact ⟨b, off, e, hbs, (hb.cell (show b < B by omega)).trans hc⟩
/-- A list of numbers that came in, made the source of records. -/
theorem seq_at {w x : World} {lo : Option Addr} {len cap : Nat} {zs : List Int} (h : IsRow .i64 w lo len cap zs) (hl : len ≤ 150) (hb : Below w.heap.size w x) : SeqAt (x.alloc (.cells #[.slice lo len cap, .int .i64 0] 35)) x.heap.size lo len cap zs 0 := seq_new h hl hb
set_option maxHeartbeats 400000 in
theorem number_big (n m : Int) (w : World) (h0 : 0 < m) (h1 : m ≤ 2000000000) : Calls Tryz.prog 6 #[.int .i64 n, .int .i64 m] w fun e w' => e = .returned (.int .i64 (numberB n m)) ∧ w' = w := by
  obtain ⟨t1, t2, t3, t4⟩ := tmod_cases n m h0
  have hne : (m == 0) = false := by simp; omega
  have hm1 : m ≠ 0 := by omega
  go_enter Tryz.func6, Tryz.ntmps6
  go_wp2
  all_goals
    go_ret
  · exact ⟨ret_int rfl, rfl⟩
  · exact ⟨ret_int (t2 (by assumption)), rfl⟩
end Go.Proofs.YtjacenhblclkaaaGreatDoor
