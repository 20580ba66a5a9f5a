/- Lemmas and contracts that the law stands on, joined: RImage. -/
import Derived.Test.YtjacenhblclkaaaGreatDoorJoin10
import Derived.Test.YtjacenhblclkaaaGreatDoorJoin20
/- The document's own disk: what its Image answers. -/
namespace Go.Proofs.YtjacenhblclkaaaGreatDoor
open Go.RowKit
set_option linter.unusedVariables false

set_option maxRecDepth 100000 in
set_option maxHeartbeats 2000000 in
theorem rimage_any {w : World} {M : Nat → Prop} {y s cap : Nat} {vss : List (List (List Int))} {left : Int} {gone : Bool} (h : RD w M y s cap vss left gone) :
    Calls Tryz.prog 29 #[.pointer (some ⟨y, 0, none⟩)] w fun e w' => ∃ ao c ps, e = .returned (.slice ao vss.length c) ∧ ps.map (·.xs) = vss.map firstV ∧ OwnRows w' w.heap.size ao c ps ∧ Below w.heap.size w w' := by
  obtain ⟨i0, hi, hz0, hz1, hz2⟩ := info_parts Tryz.info65
  have hm := h.many
  have H := hide h
  clear h
  go_enter Tryz.func29, Tryz.ntmps29
  go_wp2_with fail
  go_loopw [3, 4] (fun v i wr => ∃ (k : Nat) (ps : List Part) (ao : Option Addr) (c : Nat), k ≤ vss.length ∧ i = .int .i64 k ∧ v = .slice ao k c ∧ ps.length = k ∧ ps.map (·.xs) = (vss.take k).map firstV ∧ OwnRows wr w.heap.size ao c ps ∧ Below w.heap.size w wr) (fun _ i _ => vss.length - (intOf i).toNat)
  case atStart => exact ⟨0, [], none, 0, by omega, rfl, rfl, rfl, rfl, ⟨World.ownsRow_nil _ _ _ _, fun p hp => by simp at hp⟩, Below.refl _ _⟩
  case round =>
    obtain ⟨k, ps, ao, c, hk, rfl, rfl, hpl, hps, hown, hbel⟩ := hrel
    have HO := hide hown
    have HB := hide hbel
    have HPL := hide hpl
    have HPS := hide hps
    have HD := hide (H.out.step hbel)
    have h1 := HD.out.c0
    clear hown hbel hpl hps
    by_cases hlt : k < vss.length
    · obtain ⟨vs, hvs⟩ : ∃ vs, vss[k]? = some vs := ⟨_, List.getElem?_eq_getElem hlt⟩
      obtain ⟨b, o, c2, hcs, hv0, hvc, hx⟩ := HD.out.sec hvs
      have hfv : vs[0]? = some (firstV vs) := by unfold firstV; rw [List.getD_eq_getElem?_getD, List.getElem?_eq_getElem hv0]; rfl
      obtain ⟨px, hpx⟩ : ∃ px, px = firstV vs := ⟨_, rfl⟩
      rw [← hpx] at hfv
      obtain ⟨hp2, g, gc, hc, hp1⟩ := hx 0 px hfv
      rw [Nat.add_zero] at hc
      have HVR := hide hvs
      have HF := hide hpx
      have HP1 := hide hp1
      obtain ⟨m, hm'⟩ : ∃ m, m = vs.length := ⟨_, rfl⟩
      rw [← hm'] at hcs hv0
      have hki : (k : Int) < (vss.length : Int) := by omega
      have hmi : (0 : Int) < (m : Int) := by omega
      clear hvs hpx hp1 hm' hx hfv hvc
      go_wp2_with (first | (go_at_call 85; refine (copy_len _ 256 gc px _ HP1.out hp2).mono ?_; rintro e w2 ⟨g', rfl, hg', hown2, hbel2⟩; have HO2 := hide (HO.out.below hbel2); have HN2 := hide (hown2.mono (show _ ≤ g' from hg')); have HB2 := hide hbel2; clear hown2 hbel2 hg') | (at_builtin; refine wpList_append_own _ rfl (.tmp 14) (.tmp 25) 61 rfl w.heap.size 65 i0 (.slice none 0 0) 1 24 Tryz.underlying61 hi hz0 hz1 hz2 rfl (by decide) (.slice ao k c) k (ps.map Part.val) rfl (by have h9 := HO2.out.1.alloc (.cells #[.slice (some ⟨g', 0, none⟩) 256 256] 65); rw [HPL.out] at h9; exact h9) ⟨w2.heap.size, 0, none⟩ 1 1 [.slice (some ⟨g', 0, none⟩) 256 256] rfl rfl (cell_one_new _ _ _) (by simp [Value.oneCell']) (by unfold maxLen; omega) (by omega) (by have h7 := HB.out.size; have h8 := HB2.out.size; simp; omega) ?_; intro v' w3 hown3 hgr3 _; have HO3 := hide hown3; have HG3 := hide hgr3; clear hown3 hgr3))
      go_roundw
      case rel =>
        obtain ⟨ao', c3, rfl⟩ := own_shape HO3.out
        have hsz := HB.out.size
        have hsz2 := HB2.out.size
        have e : (⟨some ⟨g', 0, none⟩, 256, px⟩ : Part).val = .slice (some ⟨g', 0, none⟩) 256 256 := by rw [Part.val, hp2]
        refine ⟨k + 1, ps ++ [⟨some ⟨g', 0, none⟩, 256, px⟩], ao', c3, by omega, by go_num, rfl, by simp [HPL.out], ?_, ⟨?_, ?_⟩, ?_⟩
        · rw [take_snoc_any HVR.out, List.map_append, List.map_append, HPS.out]
          simp [HF.out]
        · rw [List.length_append, HPL.out, List.map_append]
          simp only [List.map_cons, List.map_nil, e]
          exact HO3.out
        · have hrow : (w2.alloc (.cells #[.slice (some ⟨g', 0, none⟩) 256 256] 65)).ownsRow w.heap.size 65 1 (.slice ao k c) k (ps.map Part.val) := by
            have h9 := HO2.out.1.alloc (.cells #[.slice (some ⟨g', 0, none⟩) 256 256] 65)
            rw [HPL.out] at h9
            exact h9
          have hal : Below w2.heap.size w2 (w2.alloc (.cells #[.slice (some ⟨g', 0, none⟩) 256 256] 65)) := (Below.refl _ _).alloc (Nat.le_refl _) _
          intro q hq
          rcases List.mem_append.1 hq with h9 | h9
          · exact ((HO2.out.2 q h9).below hal (Nat.le_refl _)).grown hrow HG3.out
          · rw [List.mem_singleton.1 h9]
            exact (((HN2.out.mono hsz).below hal (Nat.le_refl _)).grown hrow HG3.out)
        · exact ((over HB.out HB2.out hsz).alloc (by omega) _).grown HG3.out (by simp; omega) (fun j e => by have h9 := HO.out.1; rw [HPL.out] at h9; exact (h9.lt j e).1)
      case measure => simp [intOf]; omega
    · go_wp2_with fail
      go_ret
      have hk' : k = vss.length := by omega
      refine ⟨ao, c, ps, by rw [hk']; rfl, ?_, HO.out, HB.out⟩
      rw [HPS.out, hk', List.take_length]
end Go.Proofs.YtjacenhblclkaaaGreatDoor
