
/- What a disk's Image answers, at every disk. -/
import Derived.Test.YtedmgdiimfenaaaDoorFills
namespace Go.Proofs.YtedmgdiimfenaaaDoor
open Go.RowKit
set_option linter.unusedVariables false

/-- The fast version of a sector. -/
def firstV (vs : List (List Int)) : List Int := vs.getD 0 []
theorem Own.grown {w w' : World} {B C n : Nat} {ao : Option Addr} {cap : Nat} {xs : List Int} {v : Value} {cs : List Value} (h : Own w B ao cap xs) (ho : w.ownsRow C 27 1 v n cs) (hg : w.grownBy w' v.ownBlock) : Own w' B ao cap xs := by
  refine h.of_block fun g h1 h2 => hg.block g h2 fun e => ?_
  obtain ⟨cur, hc⟩ := owns_type h.1 h1
  obtain ⟨cur', hc'⟩ := owns_type ho e.symm
  rw [hc] at hc'
  simp at hc'
/-- A new list of lists of bytes: the slices are the call's own, and so are their bytes. -/
def OwnRows (w : World) (B : Nat) (ao : Option Addr) (cap : Nat) (ps : List Part) : Prop :=
  w.ownsRow B 27 1 (.slice ao ps.length cap) ps.length (ps.map Part.val) ∧ ∀ p ∈ ps, Own w B p.ao p.cap p.xs
theorem OwnRows.below {w w' : World} {B : Nat} {ao : Option Addr} {cap : Nat} {ps : List Part} (h : OwnRows w B ao cap ps) (hb : Below w.heap.size w w') : OwnRows w' B ao cap ps :=
  ⟨owns_of_block h.1 fun g _ hlt => hb.block g hlt, fun p hp => (h.2 p hp).below hb (Nat.le_refl _)⟩
theorem first_part {w : World} {K : Nat → Prop} {a : Nat → Addr} {d s : Nat} {ss : List Sec} {off : Bool} {fuse : Int} (h : DiskOf w K a d s ss off fuse) {k : Nat} (hk : k < ss.length) : ∃ (x : Sec) (g cap : Nat) (p : Part), ss[k]? = some x ∧ x.v = .slice (some ⟨g, 0, none⟩) x.vs.length cap ∧ 1 ≤ x.vs.length ∧ x.vs.length ≤ 4294967296 ∧ w.cell? ⟨g, 0, none⟩ = some (.slice p.ao 256 p.cap) ∧ Own w 0 p.ao p.cap p.xs ∧ p.xs.length = 256 ∧ (vers ss)[k]? = some (x.vs.map (·.xs)) ∧ firstV (x.vs.map (·.xs)) = p.xs := by
  obtain ⟨x, hx⟩ := sec_at hk
  obtain ⟨g, cap, hv, _, hc⟩ := h.sec hx
  obtain ⟨h1, h2, h3, h4, h5⟩ := h.each x (List.mem_of_getElem? hx)
  obtain ⟨p, hp⟩ : ∃ p, x.vs[0]? = some p := ⟨_, List.getElem?_eq_getElem (by omega)⟩
  obtain ⟨p1, p2, p3⟩ := h5 p (List.mem_of_getElem? hp)
  refine ⟨x, g, cap, p, hx, hv, h2, h3, ?_, p1, p2, by rw [vers_get, hx]; rfl, ?_⟩
  · rw [hc 0 p hp, Part.val, p2]
  · simp only [firstV, List.getD_eq_getElem?_getD, List.getElem?_map, hp]
    rfl
theorem take_snoc_any {α : Type} {l : List α} {k : Nat} {x : α} (h : l[k]? = some x) : l.take (k + 1) = l.take k ++ [x] := by
  obtain ⟨h1, h2⟩ := List.getElem?_eq_some_iff.1 h
  rw [List.take_succ_eq_append_getElem h1, h2]

set_option maxHeartbeats 1000000 in
theorem image_any (d : Nat) {w : World} {K : Nat → Prop} {a : Nat → Addr} {vss : List (List (List Int))} {off : Bool} {fuse : Int} (h : Disk w K a d vss off fuse) :
    Calls Tryd.prog 24 #[.pointer (some ⟨d, 0, none⟩)] w fun e w' => ∃ ao c ps, e = .returned (.slice ao vss.length c) ∧ ps.map (·.xs) = vss.map firstV ∧ OwnRows w' w.heap.size ao c ps ∧ Below w.heap.size w w' := by
  obtain ⟨s, ss, h, rfl⟩ := h
  obtain ⟨i0, hi, hz0, hz1, hz2⟩ := info_parts Tryd.info27
  have h0 := h.c0
  have hm := h.many
  have H := hide h
  clear h
  rw [length_vers]
  go_enter Tryd.func24, Tryd.ntmps24
  go_wp2_with fail
  go_loopw [3, 10] (fun v i wr => ∃ (k : Nat) (ps : List Part) (ao : Option Addr) (c : Nat), k ≤ ss.length ∧ i = .int .i64 k ∧ v = .slice ao k c ∧ ps.length = k ∧ ps.map (·.xs) = ((vers ss).take k).map firstV ∧ OwnRows wr w.heap.size ao c ps ∧ Below w.heap.size w wr) (fun _ i _ => ss.length - (intOf i).toNat)
  case atStart => exact ⟨0, [], none, 0, by omega, rfl, rfl, rfl, rfl, ⟨World.ownsRow_nil _ _ _ _, fun p hp => by simp at hp⟩, Below.refl _ _⟩
  case round =>
    clear h0
    obtain ⟨k, ps, ao, c, hk, rfl, rfl, hpl, hps, hown, hbel⟩ := hrel
    have HO := hide hown
    have HB := hide hbel
    have HPL := hide hpl
    have HPS := hide hps
    have H1 := hide (H.out.belowD hbel)
    have h1 := H1.out.c0
    clear hown hbel hpl hps
    by_cases hlt : k < ss.length
    · obtain ⟨x, g, cap, p, hx, hv, hx1, hx2, hc, hp1, hp2, hver, hfst⟩ := first_part H1.out hlt
      have hcs := H1.out.cs hx
      rw [hv] at hcs
      obtain ⟨m, hm'⟩ : ∃ m, m = x.vs.length := ⟨_, rfl⟩
      rw [← hm'] at hx1 hx2 hcs
      have HVR := hide hver
      have HF := hide hfst
      have HP1 := hide hp1
      have hki : (k : Int) < (ss.length : Int) := by omega
      have hmi : (0 : Int) < (m : Int) := by omega
      obtain ⟨po, pc, px⟩ := p
      simp only at hc HP1 hp2 HF
      clear hx hv hver hfst hp1 hm'
      go_wp2_with (first | (go_at_call 30; refine (clone_len po 256 pc px _ HP1.out.row hp2 (by omega)).mono ?_; rintro e w2 ⟨g', c', rfl, hg', hown2, hbel2⟩; have HO2 := hide (HO.out.below hbel2); have HN2 := hide hown2; have HB2 := hide hbel2; clear hown2 hbel2 hg') | (at_builtin; refine wpList_append_own _ rfl (.tmp 13) (.tmp 25) 50 rfl w.heap.size 27 i0 (.slice none 0 0) 1 24 Tryd.underlying50 hi hz0 hz1 hz2 rfl (by decide) (.slice ao k c) k (ps.map Part.val) rfl (by have h9 := HO2.out.1.alloc (.cells #[.slice (some ⟨g', 0, none⟩) 256 c'] 27); rw [HPL.out] at h9; exact h9) ⟨w2.heap.size, 0, none⟩ 1 1 [.slice (some ⟨g', 0, none⟩) 256 c'] rfl rfl (cell_one_new _ _ _) (by simp [Value.oneCell']) (by unfold maxLen; omega) (by omega) (by have := HB.out.size; have := HB2.out.size; simp; omega) ?_; intro v' w3 hown3 hgr3 _; have HO3 := hide hown3; have HG3 := hide hgr3; clear hown3 hgr3))
      go_roundw
      case rel =>
        obtain ⟨ao', c3, rfl⟩ := own_shape HO3.out
        have hsz := HB.out.size
        have hsz2 := HB2.out.size
        have e : (⟨some ⟨g', 0, none⟩, c', px⟩ : Part).val = .slice (some ⟨g', 0, none⟩) 256 c' := by rw [Part.val, hp2]
        refine ⟨k + 1, ps ++ [⟨some ⟨g', 0, none⟩, c', px⟩], ao', c3, by omega, by go_num, rfl, by simp [HPL.out], ?_, ⟨?_, ?_⟩, ?_⟩
        · rw [take_snoc_any HVR.out, List.map_append, List.map_append, HPS.out]
          simp [HF.out]
        · rw [List.length_append, HPL.out, List.map_append]
          simp only [List.map_cons, List.map_nil, e]
          exact HO3.out
        · have hrow : (w2.alloc (.cells #[.slice (some ⟨g', 0, none⟩) 256 c'] 27)).ownsRow w.heap.size 27 1 (.slice ao k c) k (ps.map Part.val) := by
            have h9 := HO2.out.1.alloc (.cells #[.slice (some ⟨g', 0, none⟩) 256 c'] 27)
            rw [HPL.out] at h9
            exact h9
          have hal : Below w2.heap.size w2 (w2.alloc (.cells #[.slice (some ⟨g', 0, none⟩) 256 c'] 27)) := (Below.refl _ _).alloc (Nat.le_refl _) _
          intro q hq
          rcases List.mem_append.1 hq with h9 | h9
          · exact ((HO2.out.2 q h9).below hal (Nat.le_refl _)).grown hrow HG3.out
          · rw [List.mem_singleton.1 h9]
            exact (((HN2.out.mono hsz).below hal (Nat.le_refl _)).grown hrow HG3.out)
        · exact ((over HB.out HB2.out hsz).alloc (by omega) _).grown HG3.out (by simp; omega) (fun j e => by have h9 := HO.out.1; rw [HPL.out] at h9; exact (h9.lt j e).1)
      case measure => simp [intOf]; omega
    · go_wp2_with fail
      go_ret
      have hk' : k = ss.length := by omega
      refine ⟨ao, c, ps, by rw [hk']; rfl, ?_, HO.out, HB.out⟩
      rw [HPS.out, hk', ← length_vers, List.take_length]
end Go.Proofs.YtedmgdiimfenaaaDoor
