
/- What a disk's Read and Write answer, at every disk. -/
import Derived.Test.YtedmgdiimfenaaaDoorPower
namespace Go.Proofs.YtedmgdiimfenaaaDoor
open Go.RowKit
set_option linter.unusedVariables false

/-- The last of a sector's versions. -/
def lastV (vs : List (List Int)) : List Int := vs.getD (vs.length - 1) []
theorem DiskOf.sec {w : World} {K : Nat → Prop} {a : Nat → Addr} {d s : Nat} {ss : List Sec} {off : Bool} {fuse : Int} (h : DiskOf w K a d s ss off fuse) {i : Nat} {x : Sec} (hx : ss[i]? = some x) :
    ∃ g cap, x.v = .slice (some ⟨g, 0, none⟩) x.vs.length cap ∧ g < w.heap.size ∧ ∀ j p, x.vs[j]? = some p → w.cell? ⟨g, j, none⟩ = some p.val := by
  obtain ⟨h1, h2, h3, h4, h5⟩ := h.each x (List.mem_of_getElem? hx)
  rcases h1.2 with ⟨_, e⟩ | ⟨g, cap, cur, hv, _, hh, _⟩
  · omega
  · refine ⟨g, cap, hv, lt_of_block hh, fun j p hp => ?_⟩
    have := h1.cells (g := g) (by rw [hv]; rfl) j p.val (by simp [hp])
    rw [Addr.add_lit, Nat.zero_add] at this
    exact this
theorem vers_at {ss : List Sec} {i : Nat} {x : Sec} (h : ss[i]? = some x) : (vers ss).getD i [] = x.vs.map (·.xs) := by
  simp [vers, List.getD_eq_getElem?_getD, h]
theorem lastV_of {x : Sec} {p : Part} {n : Nat} (h : x.vs[n]? = some p) (hn : x.vs.length = n + 1) : lastV (x.vs.map (·.xs)) = p.xs := by
  simp only [lastV, List.length_map, hn, Nat.add_sub_cancel, List.getD_eq_getElem?_getD, List.getElem?_map, h]
  rfl
theorem sec_at {ss : List Sec} {k : Nat} (h : k < ss.length) : ∃ x, ss[k]? = some x := ⟨_, List.getElem?_eq_getElem h⟩

theorem clone_len (ao : Option Addr) (n cap : Nat) (xs : List Int) (w : World) (h : Row w ao xs) (hn : xs.length = n) (hp : 0 < n) :
    Calls Tryd.prog 30 #[.slice ao n cap] w fun e w' => ∃ g c, e = .returned (.slice (some ⟨g, 0, none⟩) n c) ∧ w.heap.size ≤ g ∧ Own w' w.heap.size (some ⟨g, 0, none⟩) c xs ∧ Below w.heap.size w w' := by subst hn; exact clone_any ao cap xs w h hp
theorem below_drewN {B : Nat} {a w : World} (h : Below B a w) (n : Nat) : Below B a (w.drewN n) := h.trans ⟨rfl, rfl, rfl, Nat.le_refl _, fun _ _ => rfl⟩

set_option maxHeartbeats 400000 in
theorem read_off (d : Nat) (i : Int) {w : World} {K : Nat → Prop} {a : Nat → Addr} {vss : List (List (List Int))} {fuse : Int} (h : Disk w K a d vss true fuse) :
    Calls Tryd.prog 16 #[.pointer (some ⟨d, 0, none⟩), .int .i64 i] w fun e w' => e = .returned (.tuple #[.slice none 0 0, errV (a 0)]) ∧ Below w.heap.size w w' := by
  obtain ⟨s, ss, h, rfl⟩ := h
  have h0 := h.c1
  have he := h.e 0 (by omega)
  clear h
  go_enter Tryd.func16, Tryd.ntmps16
  go_wp2_with fail
  go_quiet (fail)
  go_wp2_with fail
  go_ret2
  exact ⟨rfl, below_drewN (Below.refl _ _) _⟩
set_option maxHeartbeats 400000 in
theorem read_range (d : Nat) (i : Int) {w : World} {K : Nat → Prop} {a : Nat → Addr} {vss : List (List (List Int))} {fuse : Int} (h : Disk w K a d vss false fuse) (hi : hasSec vss.length i = false) :
    Calls Tryd.prog 16 #[.pointer (some ⟨d, 0, none⟩), .int .i64 i] w fun e w' => e = .returned (.tuple #[.slice none 0 0, errV (a 1)]) ∧ Below w.heap.size w w' := by
  obtain ⟨s, ss, h, rfl⟩ := h
  rw [length_vers] at hi
  have h0 := h.c0
  have h1 := h.c1
  have he := h.e 1 (by omega)
  clear h
  go_enter Tryd.func16, Tryd.ntmps16
  go_wp2_with fail
  refine (hasSec_any _ _ _ _ _ h0).mono ?_
  rintro e w' ⟨rfl, rfl⟩
  go_wp2_with fail
  go_quiet (fail)
  go_wp2_with fail
  go_ret2
  exact ⟨rfl, below_drewN (Below.refl _ _) _⟩
set_option maxHeartbeats 400000 in
theorem read_ok (d k : Nat) {w : World} {K : Nat → Prop} {a : Nat → Addr} {vss : List (List (List Int))} {fuse : Int} (h : Disk w K a d vss false fuse) (hk : k < vss.length) :
    Calls Tryd.prog 16 #[.pointer (some ⟨d, 0, none⟩), .int .i64 k] w fun e w' => ∃ g c, e = .returned (.tuple #[.slice (some ⟨g, 0, none⟩) 256 c, .nilIface]) ∧ w.heap.size ≤ g ∧ Own w' w.heap.size (some ⟨g, 0, none⟩) c (lastV (vss.getD k [])) ∧ (lastV (vss.getD k [])).length = 256 ∧ Below w.heap.size w w' := by
  have hm := h.many
  obtain ⟨s, ss, h, rfl⟩ := h
  rw [length_vers] at hk hm
  have h0 := h.c0
  have h1 := h.c1
  obtain ⟨x, hx⟩ := sec_at hk
  obtain ⟨g, cap, hv, hg, hc⟩ := h.sec hx
  have hcs := h.cs hx
  obtain ⟨i1, i2, i3, i4, i5⟩ := h.each x (List.mem_of_getElem? hx)
  obtain ⟨n, hn⟩ : ∃ n, x.vs.length = n + 1 := ⟨x.vs.length - 1, by omega⟩
  obtain ⟨p, hp⟩ : ∃ p, x.vs[n]? = some p := ⟨_, List.getElem?_eq_getElem (by omega)⟩
  obtain ⟨p1, p2, p3⟩ := i5 p (List.mem_of_getElem? hp)
  have hcp := hc n p hp
  rw [vers_at hx, lastV_of hp hn]
  rw [hv, hn] at hcs
  have hlen : x.vs.length ≤ 4294967296 := i3
  rw [hn] at hlen
  have hh : hasSec ss.length k = true := by simp [hasSec]; omega
  have HP := hide p1
  have hki : (k : Int) < (ss.length : Int) := by omega
  have HG := hide hcp
  have HS := hide hcs
  clear h hv hc i1 i2 i3 i4 i5 hx hp p1 p3 hcp hcs hn
  obtain ⟨po, pc, px⟩ := p
  simp only at p2 HP ⊢
  have HV : Hid (w.cell? ⟨g, n, none⟩ = some (.slice po 256 pc)) := by rw [← p2]; exact HG.out
  clear HG
  go_enter Tryd.func16, Tryd.ntmps16
  go_wp2_with fail
  refine (hasSec_any _ _ _ _ _ h0).mono ?_
  rintro e w' ⟨rfl, rfl⟩
  go_wp2_with fail
  refine (last_any s k g 0 n cap (.slice po 256 pc) _ HS.out hlen (by rw [Nat.zero_add]; exact HV.out)).mono ?_
  rintro e w1 ⟨rfl, m, rfl⟩
  go_wp2_with fail
  refine (clone_len po 256 pc px _ (HP.out.row.drewN m) p2 (by omega)).mono ?_
  rintro e w2 ⟨g', c', rfl, hg', hown, hbel⟩
  have HO := hide hown
  have HB := hide hbel
  clear hown hbel
  go_wp2_with fail
  go_ret2
  exact ⟨g', c', rfl, hg', HO.out, p2, (below_drewN (Below.refl _ _) m).trans HB.out⟩
end Go.Proofs.YtedmgdiimfenaaaDoor
