/- Lemmas and contracts that the law stands on, joined: RSame2. -/
import Derived.Test.YtjacenhblclkaaaGreatDoorJoin39
import Derived.Test.YtjacenhblclkaaaGreatDoorJoin40
import Derived.Test.YtjacenhblclkaaaGreatDoorJoin33
import Derived.Test.YtjacenhblclkaaaGreatDoorJoin36
import Derived.Test.YtjacenhblclkaaaGreatDoorJoin7
/- phoenixlaw6.same: a log and the document's, alike. -/
namespace Go.Proofs.YtjacenhblclkaaaGreatDoor
open Go.RowKit
set_option linter.unusedVariables false

/-- What Rec answers of the j-th number from one below the base on. -/
def recAt (rs : List R) (j : Nat) : R × Bool := if j < 2 then (noRec, false) else match rs[j - 2]? with | some r => (r, true) | none => (noRec, false)
theorem recAt_cases (rs : List R) (j n : Nat) (hn : rs.length = n) : ((j < 2 ∨ n + 1 < j) ∧ recAt rs j = (noRec, false)) ∨ ∃ k r, j = k + 2 ∧ rs[k]? = some r ∧ recAt rs j = (r, true) := by
  unfold recAt
  by_cases h : j < 2
  · exact .inl ⟨.inl h, if_pos h⟩
  · rw [if_neg h]
    by_cases h2 : j - 2 < rs.length
    · refine .inr ⟨j - 2, rs[j - 2]'h2, by omega, List.getElem?_eq_getElem h2, ?_⟩
      rw [List.getElem?_eq_getElem h2]
    · refine .inl ⟨.inr (by omega), ?_⟩
      rw [List.getElem?_eq_none (by omega)]
section
variable {w w' : World} {K L M : Nat → Prop} {a : Nat → Addr} {l d z y s cap : Nat} {vss : List (List (List Int))} {off : Bool} {fuse left : Int} {gone : Bool} {F N : Nat} {base ep : Int} {ao : Option Addr} {c : Nat} {rs : List R} {D : Nat}
theorem wrec_uni (h : Log w K a l d vss off fuse F N base ep rs D) (lsn : Int) (j : Nat) (hj : j ≤ 10000) (hb : 0 ≤ base ∧ base ≤ 1073741824) (hl : lsn = base - 1 + j) : Calls Tryz.prog 80 #[.pointer (some ⟨l, 0, none⟩), .int .i64 lsn] w fun e w' => e = .returned (.tuple #[(recAt rs j).1.val, .bool (recAt rs j).2]) ∧ Below w.heap.size w w' := by
  rcases recAt_cases rs j rs.length rfl with ⟨h1, e⟩ | ⟨k, r, rfl, hr, e⟩
  · rw [e]
    exact wrec_no h lsn rs.length rfl ⟨by omega, by omega⟩ (by rcases h1 with h1 | h1 <;> omega)
  · rw [e]
    exact wrec_ok h lsn k r hr (by omega)
theorem rrec_uni (h : RL w L z y F N base ep ao c rs D) (lsn : Int) (j : Nat) (hn : rs.length ≤ 1000) (hb : 0 ≤ base ∧ base ≤ 1073741824) (hl : lsn = base - 1 + j) : Calls Tryz.prog 81 #[.pointer (some ⟨z, 0, none⟩), .int .i64 lsn] w fun e w' => e = .returned (.tuple #[(recAt rs j).1.val, .bool (recAt rs j).2]) ∧ Below w.heap.size w w' := by
  obtain ⟨n, hnn⟩ : ∃ n, rs.length = n := ⟨_, rfl⟩
  rcases recAt_cases rs j n hnn with ⟨h1, e⟩ | ⟨k, r, rfl, hr, e⟩
  · rw [e]
    exact rrec_none z base lsn ao n c w h.c3 (h.c5 hnn) hb (by omega) (by rcases h1 with h1 | h1 <;> omega)
  · rw [e]
    have hk := (List.getElem?_eq_some_iff.1 hr).1
    obtain ⟨b, o, rfl, hc⟩ := h.row.2 (by omega)
    exact rrec_cells z base lsn b o n c k r w h.c3 (h.c5 hnn) (hc k r hr) hb (by omega) (by omega) (by omega)
theorem quiet_below {B : Nat} {m : Nat} (h : Below B w w') : Below B w (w'.drewN m) := below_drewN h m
set_option maxRecDepth 100000 in
set_option maxHeartbeats 4000000 in
theorem lsame_any (h : Log w K a l d vss off fuse F N base ep rs D) (h' : RL w L z y F N base ep ao c rs D) : Calls Tryz.prog 26 #[.pointer (some ⟨l, 0, none⟩), .pointer (some ⟨z, 0, none⟩)] w fun e w' => e = .returned (.bool true) ∧ Below w.heap.size w w' := by
  obtain ⟨n, hn⟩ : ∃ n, rs.length = n := ⟨_, rfl⟩
  obtain ⟨hb, hnn, hD, hN⟩ : (0 ≤ base ∧ base + (n : Int) ≤ 1073741824) ∧ n ≤ 6 * N ∧ D ≤ n ∧ N ≤ 100 := by
    obtain ⟨ao, c, h⟩ := h
    have h1 := h.bd
    have h2 := h.small
    refine ⟨⟨h1.1.1, by have := h1.1.2; omega⟩, by omega, by omega, h2.1⟩
  have H := hide h
  have H' := hide h'
  have HN := hide hn
  have Q1 : Hid (∀ m, Calls Tryz.prog 58 #[.pointer (some ⟨l, 0, none⟩)] (w.drewN m) fun e w' => e = .returned (.int .i64 base) ∧ w' = w.drewN m) := fun m => wbase_any (h.drewN m)
  have Q2 : Hid (∀ m, Calls Tryz.prog 57 #[.pointer (some ⟨l, 0, none⟩)] (w.drewN m) fun e w' => e = .returned (.int .i64 (base + n)) ∧ ∃ k, w' = (w.drewN m).drewN k) := fun m => wlast_any (h.drewN m) n hn
  have Q3 : Hid (∀ m, Calls Tryz.prog 56 #[.pointer (some ⟨l, 0, none⟩)] (w.drewN m) fun e w' => e = .returned (.int .i64 (base + D)) ∧ ∃ k, w' = (w.drewN m).drewN k) := fun m => wdone_any (h.drewN m)
  have Q4 : Hid (∀ m, Calls Tryz.prog 59 #[.pointer (some ⟨l, 0, none⟩)] (w.drewN m) fun e w' => e = .returned (.int .i64 (roomR N n base)) ∧ ∃ k, w' = (w.drewN m).drewN k) := fun m => by rw [← room_alike hb hnn]; exact wroom_any (h.drewN m) n hn
  have Q5 : Hid (∀ m, Calls Tryz.prog 38 #[.pointer (some ⟨z, 0, none⟩)] (w.drewN m) fun e w' => e = .returned (.int .i64 (base + n)) ∧ ∃ k, w' = (w.drewN m).drewN k) := fun m => rlast_cells z base ao n c (w.drewN m) (h'.drewN m).c3 ((h'.drewN m).c5 hn) (by omega) (by omega)
  have Q6 : Hid (∀ m, Calls Tryz.prog 63 #[.pointer (some ⟨z, 0, none⟩)] (w.drewN m) fun e w' => e = .returned (.int .i64 (roomR N n base)) ∧ ∃ k, w' = (w.drewN m).drewN k) := fun m => rroom_cells z N base ao n c (w.drewN m) (h'.drewN m).c2 (h'.drewN m).c3 ((h'.drewN m).c5 hn) (by omega) (by omega) (by omega)
  have c3 := h'.c3
  have c6 := h'.c6
  have hb0 := hb.1
  have hb1 := hb.2
  have hnb : n ≤ 600 := by omega
  clear h h' hn hb
  go_enter Tryz.func26, Tryz.ntmps26
  go_wp2_with fail
  go_quiet (first
    | (go_at_call 58; exact Calls.quiet_of_same (Q1.out _))
    | (go_at_call 57; exact Calls.quiet_of (Q2.out _))
    | (go_at_call 56; exact Calls.quiet_of (Q3.out _))
    | (go_at_call 59; exact Calls.quiet_of (Q4.out _))
    | (go_at_call 38; exact Calls.quiet_of (Q5.out _))
    | (go_at_call 63; exact Calls.quiet_of (Q6.out _)))
  go_wp2_with fail
  clear c6
  go_loopw [5] (fun i wr => ∃ (j : Nat) (lsn : Int), i = .int .i64 lsn ∧ lsn = base - 1 + j ∧ j ≤ n + 3 ∧ Below w.heap.size w wr) (fun i _ => (n + 3) - (intOf i - (base - 1)).toNat)
  case atStart => exact ⟨0, base - 1, rfl, by omega, by omega, below_drewN (Below.refl _ _) _⟩
  case round =>
    clear Q1 Q2 Q3 Q4 Q5 Q6 c3
    obtain ⟨j, lsn, rfl, hj, hjn, hbl⟩ := hrel
    have HB := hide hbl
    have HL := hide (rlast_cells z base ao n c wr (H'.out.step hbl).c3 ((H'.out.step hbl).c5 HN.out) (by omega) (by omega))
    clear hbl
    have HJ := hide hj
    have hlb : -1 ≤ lsn ∧ lsn ≤ 1073741830 := by omega
    have hb0' : base ≤ 1073741824 := by omega
    by_cases hlt : j < n + 3
    · have hle : lsn ≤ base + n + 1 := by omega
      clear hj
      go_wp2_with fail
      refine HL.out.mono ?_
      rintro e w1 ⟨rfl, q, rfl⟩
      have HB1 := hide (below_drewN HB.out q)
      clear HL HB
      go_wp2_with fail
      refine (wrec_uni (H.out.below HB1.out) lsn j (by omega) (by omega) HJ.out).mono ?_
      rintro e w2 ⟨rfl, hb2⟩
      have HB2 := hide (HB1.out.trans (hb2.mono HB1.out.size))
      clear hb2 HB1
      obtain ⟨p, hp⟩ : ∃ p, p = recAt rs j := ⟨_, rfl⟩
      have HP := hide hp
      rw [← hp]
      clear hp
      obtain ⟨⟨a0, a1, a2, a3, a4, a5, a6, a7, a8, a9⟩, bb⟩ := p
      unfold R.val
      simp only
      have HS : Hid (∀ W : World, Calls Tryz.prog 82 #[.agg #[.int .i64 a0, .int .i64 a1, .int .i64 a2, .int .i64 a3, .int .i64 a4, .int .i64 a5, .bool a6, .bool a7, .int .i64 a8, .int .i64 a9], .agg #[.int .i64 a0, .int .i64 a1, .int .i64 a2, .int .i64 a3, .int .i64 a4, .int .i64 a5, .bool a6, .bool a7, .int .i64 a8, .int .i64 a9]] W fun e w' => e = .returned (.bool true) ∧ Below W.heap.size W w') := fun W => by
        have h := sameRec_any ⟨a0, a1, a2, a3, a4, a5, a6, a7, a8, a9⟩ ⟨a0, a1, a2, a3, a4, a5, a6, a7, a8, a9⟩ W
        rw [(sameR_iff _ _).2 rfl] at h
        exact h
      go_wp2_with fail
      have hbx := below_box w2 (.cells #[.int .i64 a0, .int .i64 a1, .int .i64 a2, .int .i64 a3, .int .i64 a4, .int .i64 a5, .bool a6, .bool a7, .int .i64 a8, .int .i64 a9] 37)
      have hC0 := cells10_new w2 ⟨a0, a1, a2, a3, a4, a5, a6, a7, a8, a9⟩
      have HB3 := hide (HB2.out.trans (hbx.mono HB2.out.size))
      clear hbx
      obtain ⟨W3, hW3⟩ : ∃ V, V = w2.alloc (.cells #[.int .i64 a0, .int .i64 a1, .int .i64 a2, .int .i64 a3, .int .i64 a4, .int .i64 a5, .bool a6, .bool a7, .int .i64 a8, .int .i64 a9] 37) := ⟨_, rfl⟩
      unfold recCells at hC0
      simp only at hC0
      rw [← hW3] at HB3 hC0 ⊢
      have HC0 := hide hC0
      clear hC0 hW3
      obtain ⟨X, hX⟩ : ∃ X, X = w2.heap.size := ⟨_, rfl⟩
      rw [← hX] at HC0 ⊢
      clear hX
      have hrr := rrec_uni (H'.out.step HB3.out) lsn j (by have := HN.out; omega) (by omega) HJ.out
      rw [← HP.out] at hrr
      refine hrr.mono ?_
      clear hrr
      rintro e w4 ⟨rfl, hb4⟩
      have HB4 := hide (HB3.out.trans (hb4.mono HB3.out.size))
      have HC4 := hide (cells10_of_below HC0.out hb4 HC0.out.lt)
      clear hb4 HC0 HB3
      unfold R.val
      simp only
      have hbx := below_box w4 (.cells #[.int .i64 a0, .int .i64 a1, .int .i64 a2, .int .i64 a3, .int .i64 a4, .int .i64 a5, .bool a6, .bool a7, .int .i64 a8, .int .i64 a9] 37)
      have HB5 := hide (HB4.out.trans (hbx.mono HB4.out.size))
      obtain ⟨k0, k1, k2, k3, k4, k5, k6, k7, k8, k9, kl⟩ := HC4.out
      simp only at k0 k1 k2 k3 k4 k5 k6 k7 k8 k9
      clear hbx HC4
      go_wp2_with fail
      refine (HS.out _).mono ?_
      rintro e w6 ⟨rfl, hb6⟩
      have HB6 := hide (HB5.out.trans (hb6.mono HB5.out.size))
      clear hb6
      go_wp2_with fail
      go_roundw
      case rel => exact ⟨j + 1, lsn + 1, by go_num, by have := HJ.out; omega, by omega, HB6.out⟩
      case measure => have := HJ.out; simp [intOf]; omega
    · have hle : decide (lsn ≤ base + (n : Int) + 1) = false := by simp; omega
      clear hj
      go_wp2_with fail
      refine HL.out.mono ?_
      rintro e w1 ⟨rfl, q, rfl⟩
      have HB1 := hide (below_drewN HB.out q)
      clear HL HB
      go_wp2_with fail
      go_ret
      exact ⟨rfl, HB1.out⟩
end
end Go.Proofs.YtjacenhblclkaaaGreatDoor
