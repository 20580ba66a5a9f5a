
/- What a disk's Write answers, at every disk. -/
import Derived.Test.YtedmgdiimfenaaaDoorTurns
namespace Go.Proofs.YtedmgdiimfenaaaDoor
open Go.RowKit
set_option linter.unusedVariables false

theorem vers_set (ss : List Sec) (i : Nat) (x : Sec) : vers (ss.set i x) = (vers ss).set i (x.vs.map (·.xs)) := by simp [vers, List.map_set]
theorem DiskOf.belowD {w w' : World} {K : Nat → Prop} {a : Nat → Addr} {d s : Nat} {ss : List Sec} {off : Bool} {fuse : Int} (h : DiskOf w K a d s ss off fuse) (hb : Below w.heap.size w w') : DiskOf w' K a d s ss off fuse :=
  h.more hb (fun k hk => ⟨Nat.lt_of_lt_of_le (h.low k hk) hb.size, fun _ => hk⟩) (fun k hk => (h.errs k hk).1)
theorem Own.any {w : World} {B : Nat} {ao : Option Addr} {cap : Nat} {xs : List Int} (h : Own w B ao cap xs) : Own w 0 ao cap xs := h.mono (Nat.zero_le _)

theorem of_drew {B : Nat} {w w1 : World} (h : Below B w.drew w1) : Below B w w1 := ⟨h.os, h.tape, h.output, h.size, h.block⟩

theorem sec_add_len {w : World} {K : Nat → Prop} {a : Nat → Addr} {d s : Nat} {ss : List Sec} {off : Bool} {fuse : Int} (h : DiskOf w K a d s ss off fuse) {i : Nat} {x : Sec} (hx : ss[i]? = some x) (ao : Option Addr) (cap : Nat) (xs : List Int) (hp : Own w 0 ao cap xs) (hpl : xs.length = 256) (hpk : ∀ g, (Value.slice ao 256 cap).ownBlock = some g → ¬ K g) (hlen : x.vs.length + 1 ≤ 4294967296) :
    Calls Tryd.prog 25 #[.pointer (some ⟨s, i, none⟩), .slice ao 256 cap] w fun e w' => e = .returned (.tuple #[]) ∧ ∃ v', DiskOf w' K a d s (ss.set i ⟨v', x.vs ++ [⟨ao, cap, xs⟩]⟩) off fuse ∧ Kept K w w' := by
  have h1 := sec_add h hx ⟨ao, cap, xs⟩ hp hpl (by show ∀ g, (Value.slice ao xs.length cap).ownBlock = some g → ¬ K g; rw [hpl]; exact hpk) hlen
  rw [show (⟨ao, cap, xs⟩ : Part).val = .slice ao 256 cap by rw [← hpl]; rfl] at h1
  exact h1

theorem not_low {K : Nat → Prop} {B g' n c : Nat} (low : ∀ k, K k → k < B) (h : B ≤ g') : ∀ g, (Value.slice (some ⟨g', 0, none⟩) n c).ownBlock = some g → ¬ K g := by
  intro g e hk
  simp only [Value.ownBlock, Option.some.injEq] at e
  have := low g hk
  omega

set_option maxHeartbeats 400000 in
theorem write_off (d : Nat) (i : Int) (b : Value) {w : World} {K : Nat → Prop} {a : Nat → Addr} {vss : List (List (List Int))} {fuse : Int} (h : Disk w K a d vss true fuse) :
    Calls Tryd.prog 13 #[.pointer (some ⟨d, 0, none⟩), .int .i64 i, b] w fun e w' => e = .returned (errV (a 0)) ∧ w' = w := by
  obtain ⟨s, ss, h, rfl⟩ := h
  have h0 := h.c1
  have he := h.e 0 (by omega)
  clear h
  go_enter Tryd.func13, Tryd.ntmps13
  go_wp2_with fail
  go_ret
  exact ⟨rfl, rfl⟩
set_option maxHeartbeats 400000 in
theorem write_range (d : Nat) (i : Int) (b : Value) {w : World} {K : Nat → Prop} {a : Nat → Addr} {vss : List (List (List Int))} {fuse : Int} (h : Disk w K a d vss false fuse) (hi : hasSec vss.length i = false) :
    Calls Tryd.prog 13 #[.pointer (some ⟨d, 0, none⟩), .int .i64 i, b] w fun e w' => e = .returned (errV (a 1)) ∧ w' = w := by
  obtain ⟨s, ss, h, rfl⟩ := h
  rw [length_vers] at hi
  have h0 := h.c0
  have h1 := h.c1
  have he := h.e 1 (by omega)
  clear h
  go_enter Tryd.func13, Tryd.ntmps13
  go_wp2_with fail
  refine (hasSec_any _ _ _ _ _ h0).mono ?_
  rintro e w' ⟨rfl, rfl⟩
  go_wp2_with fail
  go_ret
  exact ⟨rfl, rfl⟩
set_option maxHeartbeats 400000 in
theorem write_short (d : Nat) (i : Int) (bo : Option Addr) (n c : Nat) {w : World} {K : Nat → Prop} {a : Nat → Addr} {vss : List (List (List Int))} {fuse : Int} (h : Disk w K a d vss false fuse) (hi : hasSec vss.length i = true) (hn : n ≠ 256) :
    Calls Tryd.prog 13 #[.pointer (some ⟨d, 0, none⟩), .int .i64 i, .slice bo n c] w fun e w' => e = .returned (errV (a 2)) ∧ w' = w := by
  obtain ⟨s, ss, h, rfl⟩ := h
  rw [length_vers] at hi
  have h0 := h.c0
  have h1 := h.c1
  have he := h.e 2 (by omega)
  clear h
  have hne : ((n : Int) != 256) = true := by simp; omega
  go_enter Tryd.func13, Tryd.ntmps13
  go_wp2_with fail
  refine (hasSec_any _ _ _ _ _ h0).mono ?_
  rintro e w' ⟨rfl, rfl⟩
  go_wp2_with fail
  go_ret
  exact ⟨rfl, rfl⟩

set_option maxHeartbeats 1000000 in
theorem write_any (d k : Nat) (bo : Option Addr) (bc : Nat) (ys : List Int) {w : World} {K : Nat → Prop} {a : Nat → Addr} {s : Nat} {ss : List Sec} {fuse : Int} (h : DiskOf w K a d s ss false fuse) (hk : k < ss.length) (hr : Row w bo ys) (hl : ys.length = 256) (x : Sec) (hx : ss[k]? = some x) (hlen : x.vs.length + 1 ≤ 4294967296) :
    Calls Tryd.prog 13 #[.pointer (some ⟨d, 0, none⟩), .int .i64 k, .slice bo 256 bc] w fun e w' => ∃ x' : Sec, x'.vs.map (·.xs) = x.vs.map (·.xs) ++ [ys] ∧ Kept K w w' ∧ (fuse ≠ 0 → e = .returned .nilIface ∧ DiskOf w' K a d s (ss.set k x') false (burnt fuse)) ∧ (fuse = 0 → e = .returned (errV (a 0)) ∧ DiskOf w' K a d s (ss.set k x') true 0) := by
  have h0 := h.c0
  have h1 := h.c1
  have hm := h.many
  have H := hide h
  have HR := hide hr
  have HX := hide hx
  have hh : hasSec ss.length k = true := by simp [hasSec]; omega
  have hki : (k : Int) < (ss.length : Int) := by omega
  clear h hr hx
  go_enter Tryd.func13, Tryd.ntmps13
  go_wp2_with fail
  refine (hasSec_any _ _ _ _ _ h0).mono ?_
  rintro e w' ⟨rfl, rfl⟩
  go_wp2_with fail
  go_region_held3 (fun w' => w'.cell? ⟨d, 0, none⟩ = some (.slice (some ⟨s, 0, none⟩) ss.length ss.length)) (first | go_keep | assumption)
    (first
      | (go_at_call 30; refine (clone_len bo 256 bc ys _ (by exact HR.out) hl (by omega)).mono ?_; rintro e w1 ⟨g', c', rfl, hg', hown, hbel⟩; have hbel := of_drew hbel; have H1 := hide (H.out.belowD hbel); have hc1 := H1.out.c0; have HO := hide hown; have HB := hide hbel; have HG := hide hg'; clear hown hbel hg')
      | (go_at_call 25; refine (sec_add_len H1.out HX.out (some ⟨g', 0, none⟩) c' ys HO.out.any hl (not_low H.out.low HG.out) hlen).mono ?_; rintro e w2 ⟨rfl, v', h2, k2⟩; have hc2 := h2.c0; rw [List.length_set] at hc2; have H2 := hide h2; have HK := hide k2; clear h2 k2))
  have hmap : (x.vs ++ [(⟨some ⟨g', 0, none⟩, c', ys⟩ : Part)]).map (fun p : Part => p.xs) = x.vs.map (·.xs) ++ [ys] := by simp
  have HM := hide hmap
  have HKK : Hid (Kept K w' w2) := (Kept.of_below HB.out H.out.low).trans HK.out
  clear hmap HK HB
  by_cases hf : fuse = 0
  · subst hf
    go_wp2_with fail
    refine (spend_burn _ _ _ H2.out).mono ?_
    rintro e w3 ⟨rfl, h3, k3⟩
    have H3 := hide h3
    have HK3 := hide k3
    clear h3 k3
    go_wp2_with fail
    go_ret
    exact ⟨_, HM.out, HKK.out.trans HK3.out, rfl, H3.out⟩
  · go_wp2_with fail
    refine (spend_ok _ _ _ H2.out hf).mono ?_
    rintro e w3 ⟨rfl, h3, k3⟩
    have H3 := hide h3
    have HK3 := hide k3
    clear h3 k3
    go_wp2_with fail
    go_ret
    exact ⟨_, HM.out, HKK.out.trans HK3.out, fun _ => ⟨rfl, H3.out⟩, fun e => absurd e hf⟩
theorem write_ok (d k : Nat) (bo : Option Addr) (bc : Nat) (ys : List Int) {w : World} {K : Nat → Prop} {a : Nat → Addr} {vss : List (List (List Int))} {fuse : Int} (h : Disk w K a d vss false fuse) (hk : k < vss.length) (hr : Row w bo ys) (hl : ys.length = 256) (hlen : (vss.getD k []).length + 1 ≤ 4294967296) (hf : fuse ≠ 0) :
    Calls Tryd.prog 13 #[.pointer (some ⟨d, 0, none⟩), .int .i64 k, .slice bo 256 bc] w fun e w' => e = .returned .nilIface ∧ Disk w' K a d (vss.set k (vss.getD k [] ++ [ys])) false (burnt fuse) ∧ Kept K w w' := by
  obtain ⟨s, ss, h, rfl⟩ := h
  rw [length_vers] at hk
  obtain ⟨x, hx⟩ := sec_at hk
  rw [vers_at hx] at hlen ⊢
  refine (write_any d k bo bc ys h hk hr hl x hx (by simpa using hlen)).mono ?_
  rintro e w' ⟨x', hx', hkept, h1, _⟩
  exact ⟨(h1 hf).1, ⟨s, _, (h1 hf).2, by rw [vers_set, hx']⟩, hkept⟩
theorem write_burn (d k : Nat) (bo : Option Addr) (bc : Nat) (ys : List Int) {w : World} {K : Nat → Prop} {a : Nat → Addr} {vss : List (List (List Int))} (h : Disk w K a d vss false 0) (hk : k < vss.length) (hr : Row w bo ys) (hl : ys.length = 256) (hlen : (vss.getD k []).length + 1 ≤ 4294967296) :
    Calls Tryd.prog 13 #[.pointer (some ⟨d, 0, none⟩), .int .i64 k, .slice bo 256 bc] w fun e w' => e = .returned (errV (a 0)) ∧ Disk w' K a d (vss.set k (vss.getD k [] ++ [ys])) true 0 ∧ Kept K w w' := by
  obtain ⟨s, ss, h, rfl⟩ := h
  rw [length_vers] at hk
  obtain ⟨x, hx⟩ := sec_at hk
  rw [vers_at hx] at hlen ⊢
  refine (write_any d k bo bc ys h hk hr hl x hx (by simpa using hlen)).mono ?_
  rintro e w' ⟨x', hx', hkept, _, h1⟩
  exact ⟨(h1 rfl).1, ⟨s, _, (h1 rfl).2, by rw [vers_set, hx']⟩, hkept⟩
end Go.Proofs.YtedmgdiimfenaaaDoor
