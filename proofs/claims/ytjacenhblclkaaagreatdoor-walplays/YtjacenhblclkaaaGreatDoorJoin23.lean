/- Lemmas and contracts that the law stands on, joined: RCrash. -/
import Derived.Test.YtjacenhblclkaaaGreatDoorJoin10
import Derived.Test.YtjacenhblclkaaaGreatDoorJoin19
/- The document's own disk: what its Loose answers, what its Crash does. -/
namespace Go.Proofs.YtjacenhblclkaaaGreatDoor
open Go.RowKit
set_option linter.unusedVariables false

theorem ver_at {vss : List (List (List Int))} {k : Nat} {vs : List (List Int)} (h : vss[k]? = some vs) : verOf vss k = vs := by
  unfold verOf
  rw [List.getD_eq_getElem?_getD, h]; rfl
set_option maxRecDepth 100000 in
set_option maxHeartbeats 2000000 in
theorem rloose_any {w : World} {M : Nat → Prop} {y s cap : Nat} {vss : List (List (List Int))} {left : Int} {gone : Bool} (h : RD w M y s cap vss left gone) (hbig : ∀ vs ∈ vss, vs.length ≤ 1000000) :
    Calls Tryz.prog 50 #[.pointer (some ⟨y, 0, none⟩)] w fun e w' => ∃ ao c, e = .returned (.slice ao (looseL vss).length c) ∧ w'.ownsRow w.heap.size 121 2 (.slice ao (looseL vss).length c) (looseL vss).length (pairCells (looseL vss)) ∧ Below w.heap.size w w' := by
  obtain ⟨i0, hi, hz0, hz1, hz2⟩ := info_parts Tryz.info121
  have hmany := h.many
  have H := hide h
  have HBIG := hide hbig
  clear h hbig
  go_enter Tryz.func50, Tryz.ntmps50
  go_wp2_with fail
  go_loopw [3, 4] (fun v i wr => ∃ k : Nat, k ≤ vss.length ∧ i = .int .i64 k ∧ ∃ ao c n, n = (looseUp vss k).length ∧ v = .slice ao n c ∧ wr.ownsRow w.heap.size 121 2 (.slice ao n c) n (pairCells (looseUp vss k)) ∧ Below w.heap.size w wr) (fun _ i _ => vss.length - (intOf i).toNat)
  case atStart => exact ⟨0, by omega, rfl, none, 0, 0, rfl, rfl, World.ownsRow_nil _ _ _ _, Below.refl _ _⟩
  case round =>
    obtain ⟨k, hk, rfl, ao, c, n, hn, rfl, hown, hbel⟩ := hrel
    have HO := hide hown
    have HB := hide hbel
    have HN := hide hn
    have HD := hide (H.out.step hbel)
    have h1 := HD.out.c0
    have hle := looseUp_le vss k
    rw [← hn] at hle
    clear hown hbel hn
    by_cases hlt : k < vss.length
    · obtain ⟨vs, hvs⟩ : ∃ vs, vss[k]? = some vs := ⟨_, List.getElem?_eq_getElem hlt⟩
      have hvb := HBIG.out vs (List.mem_of_getElem? hvs)
      obtain ⟨b, o, c2, hcs, hv0, hvc, _⟩ := HD.out.sec hvs
      have HX := hide (ver_at hvs)
      obtain ⟨m, hm'⟩ : ∃ m, m = vs.length := ⟨_, rfl⟩
      rw [← hm'] at hcs hv0 hvb
      have HM : Hid (vs.length = m) := hm'.symm
      have hki : (k : Int) < (vss.length : Int) := by omega
      clear hvs hm' hvc
      by_cases hl : 1 < m
      · have hpos : (1 : Int) < (m : Int) := by omega
        have HS : Hid (looseUp vss (k + 1) = looseUp vss k ++ [(k, m - 1)]) := by
          have := looseUp_yes (vss := vss) (k := k) (by rw [HX.out, HM.out]; exact hl)
          rw [HX.out, HM.out] at this
          exact this
        go_wp2_with (at_builtin; refine wpList_append_own _ rfl (.tmp 23) (.tmp 35) 91 rfl w.heap.size 121 i0 (.agg #[.int .i64 0, .int .i64 0]) 2 16 Tryz.underlying91 hi hz0 hz1 hz2 rfl (by decide) (.slice ao n c) n (pairCells (looseUp vss k)) rfl (HO.out.alloc _) ⟨wr.heap.size, 0, none⟩ 1 1 [.int .i64 k, .int .i64 ((m : Int) - 1)] rfl rfl (cell_two_new _ _ _ _) (by simp [Value.oneCell']) (by unfold maxLen; omega) (by omega) (by have := HB.out.size; simp; omega) ?_; intro v' w3 hown3 hgr3 _; have HO3 := hide hown3; have HG3 := hide hgr3; clear hown3 hgr3)
        go_roundw
        case rel =>
          obtain ⟨ao', c', rfl⟩ := own_shape_any HO3.out
          have hsz := HB.out.size
          refine ⟨k + 1, by omega, by go_num, ao', c', n + 1, ?_, rfl, ?_, ?_⟩
          · rw [HS.out, List.length_append, ← HN.out]; rfl
          · rw [HS.out, pairCells_snoc]
            have h3 := HO3.out
            rw [show (m : Int) - 1 = ((m - 1 : Nat) : Int) by omega] at h3
            exact h3
          · exact (HB.out.alloc hsz _).grown HG3.out (by simp; omega) (fun j e => (HO.out.lt j e).1)
        case measure => simp [intOf]; omega
      · have hpos : decide ((1 : Int) < (m : Int)) = false := by simp; omega
        have hpos2 : decide (1 < m) = false := by simp; omega
        have HS : Hid (looseUp vss (k + 1) = looseUp vss k) := looseUp_no (vss := vss) (k := k) (by rw [HX.out, HM.out]; exact hl)
        go_wp2_with fail
        go_roundw
        case rel => exact ⟨k + 1, by omega, by go_num, ao, c, n, by rw [HS.out]; exact HN.out, rfl, by rw [HS.out]; exact HO.out, HB.out⟩
        case measure => simp [intOf]; omega
    · go_wp2_with fail
      go_ret
      have hk' : k = vss.length := by omega
      have e : looseUp vss k = looseL vss := by rw [hk', looseL]
      have h3 := HO.out
      have h4 := HN.out
      rw [e] at h3 h4
      rw [← h4]
      exact ⟨ao, c, rfl, h3, HB.out⟩
end Go.Proofs.YtjacenhblclkaaaGreatDoor
