/- Lemmas and contracts that the law stands on, joined: RRecs. -/
import Derived.Test.YtjacenhblclkaaaGreatDoorJoin17
import Derived.Test.YtjacenhblclkaaaGreatDoorJoin11
import Derived.Test.YtjacenhblclkaaaGreatDoorJoin20
import Derived.Deep.RegionHeld3
import Derived.Deep.Cut
/- phoenixref.Recs: a copy of a list of records, in new memory. -/
namespace Go.Proofs.YtjacenhblclkaaaGreatDoor
open Go.RowKit
set_option linter.unusedVariables false

theorem ownR_len {w : World} {B : Nat} {ao : Option Addr} {c n : Nat} {rs : List R} (h : w.ownsRow B 37 10 (.slice ao 0 c) 0 []) : OwnR w B ao c [] := ⟨h, by simp⟩
set_option maxRecDepth 100000 in
set_option maxHeartbeats 4000000 in
theorem rrecs_any (ao : Option Addr) (n c : Nat) (rs : List R) (w : World) (h : RecRow w ao rs) (hn : rs.length = n) (hn8 : n ≤ 800) :
    Calls Tryz.prog 64 #[.slice ao n c] w fun e w' => ∃ ao' c', e = .returned (.slice ao' n c') ∧ OwnR w' w.heap.size ao' c' rs ∧ Below w.heap.size w w' := by
  obtain ⟨i0, hi, hz0, hz1, hz2⟩ := info_parts Tryz.info37
  have HR := hide h
  have HN := hide hn
  clear h hn
  go_enter Tryz.func64, Tryz.ntmps64
  go_wp2_with (at_make; refine wpList_make_own w rfl (.const (.int .i64 0)) (.tmp 6) 103 rfl w.heap.size 37 i0 _ 10 Tryz.underlying103 hi hz0 hz1 .i64 .i64 n n rfl rfl rfl (by rw [hz2]; omega) (by unfold maxLen; omega) (Nat.le_refl _) ?_; intro w1 hown hgr; have HB : Hid (Below w.heap.size w w1) := (Below.refl _ _).grown hgr (Nat.le_refl _) (by simp); have HO : Hid (OwnR w1 w.heap.size (some ⟨w.heap.size, 0, none⟩) n []) := ⟨hown, by simp⟩; clear hown hgr)
  go_loopw [3, 4] (fun v i wr => ∃ (k : Nat) (ao' : Option Addr) (c' : Nat), k ≤ n ∧ i = .int .i64 k ∧ v = .slice ao' k c' ∧ OwnR wr w.heap.size ao' c' (rs.take k) ∧ Below w.heap.size w wr) (fun _ i _ => n - (intOf i).toNat)
  case atStart => exact ⟨0, _, n, by omega, rfl, rfl, HO.out, HB.out⟩
  case round =>
    obtain ⟨k, ao', c', hk, rfl, rfl, hown, hbel⟩ := hrel
    have HO1 := hide hown
    have HB1 := hide hbel
    clear hown hbel HO HB
    by_cases hlt : k < n
    · have hki : (k : Int) < (n : Int) := by omega
      obtain ⟨r, hr⟩ : ∃ r, rs[k]? = some r := ⟨rs[k]'(by rw [HN.out]; exact hlt), List.getElem?_eq_getElem _⟩
      obtain ⟨b, off, rfl, hc⟩ := HR.out.2 (by rw [HN.out]; omega)
      obtain ⟨k0, k1, k2, k3, k4, k5, k6, k7, k8, k9, kl⟩ := (hc k r hr).of_block (HB1.out.block b (hc k r hr).lt) HB1.out.size
      have HTK := hide (take_snoc_any hr)
      have HK : Hid ((rs.take k).length = k) := by show _ = _; rw [List.length_take, HN.out]; omega
      clear hc hr
      go_wp2_with (first | (refine build1 r rfl ?_) | (at_builtin; refine append1 w.heap.size ao' k c' (rs.take k) r rfl HK.out HO1.out (by omega) (by first | rfl | (simp; rfl)) HB1.out.size ?_; intro ao3 c3 x4 hown3 hb3; have HO3 := hide hown3; have HB3 := hide hb3; clear hown3 hb3))
      go_roundw
      case rel => exact ⟨k + 1, ao3, c3, by omega, by go_num, rfl, by rw [HTK.out]; exact HO3.out, HB1.out.trans HB3.out⟩
      case measure => simp [intOf]; omega
    · have hki : decide ((k : Int) < (n : Int)) = false := by simp; omega
      have hkn : k = n := by omega
      subst hkn
      go_wp2_with fail
      go_ret
      have hO := HO1.out
      rw [List.take_of_length_le (by rw [HN.out]; exact Nat.le_refl _)] at hO
      exact ⟨ao', c', rfl, hO, HB1.out⟩
end Go.Proofs.YtjacenhblclkaaaGreatDoor
