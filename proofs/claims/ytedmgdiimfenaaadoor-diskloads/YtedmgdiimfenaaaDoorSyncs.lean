
/- What a disk's Sync answers, at every disk. -/
import Derived.Test.YtedmgdiimfenaaaDoorWrites
namespace Go.Proofs.YtedmgdiimfenaaaDoor
open Go.RowKit
set_option linter.unusedVariables false

/-- The first k of a list turned by f, the rest as they are. -/
def upTo {α : Type} (f : α → α) (k : Nat) (l : List α) : List α := (l.take k).map f ++ l.drop k
theorem upTo_zero {α : Type} (f : α → α) (l : List α) : upTo f 0 l = l := by simp [upTo]
theorem upTo_all {α : Type} (f : α → α) (l : List α) : upTo f l.length l = l.map f := by simp [upTo]
theorem length_upTo {α : Type} (f : α → α) (k : Nat) (l : List α) : (upTo f k l).length = l.length := by simp [upTo]; omega
theorem upTo_at {α : Type} (f : α → α) (k : Nat) (l : List α) : (upTo f k l)[k]? = l[k]? := by
  by_cases h : k < l.length
  · rw [upTo, List.getElem?_append_right (by simp; omega)]
    simp [Nat.min_eq_left (Nat.le_of_lt h)]
  · rw [List.getElem?_eq_none (by rw [length_upTo]; omega), List.getElem?_eq_none (by omega)]
theorem upTo_succ {α : Type} (f : α → α) (k : Nat) (l : List α) (x : α) (h : l[k]? = some x) : (upTo f k l).set k (f x) = upTo f (k + 1) l := by
  have hk : k < l.length := (List.getElem?_eq_some_iff.1 h).1
  have hx : l[k] = x := (List.getElem?_eq_some_iff.1 h).2
  unfold upTo
  rw [List.set_append_right _ _ (by simp; omega), List.take_succ_eq_append_getElem hk, List.drop_eq_getElem_cons hk, hx]
  simp [Nat.min_eq_left (Nat.le_of_lt hk)]
theorem vers_get (ss : List Sec) (i : Nat) : (vers ss)[i]? = (ss[i]?).map fun x => x.vs.map (·.xs) := by simp [vers]

theorem DiskOf.drew {w : World} {K : Nat → Prop} {a : Nat → Addr} {d s : Nat} {ss : List Sec} {off : Bool} {fuse : Int} (h : DiskOf w K a d s ss off fuse) : DiskOf w.drew K a d s ss off fuse := ⟨h.head, h.secs, h.each, h.apart, h.nd, h.ns, h.low, h.many, h.fuseBd, h.errs⟩
theorem DiskOf.drewN {w : World} {K : Nat → Prop} {a : Nat → Addr} {d s : Nat} {ss : List Sec} {off : Bool} {fuse : Int} (h : DiskOf w K a d s ss off fuse) (n : Nat) : DiskOf (w.drewN n) K a d s ss off fuse := ⟨h.head, h.secs, h.each, h.apart, h.nd, h.ns, h.low, h.many, h.fuseBd, h.errs⟩
theorem Disk.drew {w : World} {K : Nat → Prop} {a : Nat → Addr} {d : Nat} {vss : List (List (List Int))} {off : Bool} {fuse : Int} (h : Disk w K a d vss off fuse) : Disk w.drew K a d vss off fuse := by obtain ⟨s, ss, h, e⟩ := h; exact ⟨s, ss, h.drew, e⟩
theorem Kept.of_drew {K : Nat → Prop} {w w1 : World} (h : Kept K w.drew w1) : Kept K w w1 := ⟨h.os, h.tape, h.output, h.size, h.block⟩
theorem sec_keep_int {w : World} {K : Nat → Prop} {a : Nat → Addr} {d s : Nat} {ss : List Sec} {off : Bool} {fuse : Int} (h : DiskOf w K a d s ss off fuse) {i : Nat} {x : Sec} (hx : ss[i]? = some x) (k : Nat) (kk : Int) (hk : kk = k) (p : Part) (hp : x.vs[k]? = some p) :
    Calls Tryd.prog 27 #[.pointer (some ⟨s, i, none⟩), .int .i64 kk] w fun e w' => e = .returned (.tuple #[]) ∧ ∃ v', DiskOf w' K a d s (ss.set i ⟨v', [p]⟩) off fuse ∧ Kept K w w' := by subst hk; exact sec_keep h hx k p hp

set_option maxHeartbeats 400000 in
theorem sync_off (d : Nat) {w : World} {K : Nat → Prop} {a : Nat → Addr} {vss : List (List (List Int))} {fuse : Int} (h : Disk w K a d vss true fuse) :
    Calls Tryd.prog 11 #[.pointer (some ⟨d, 0, none⟩)] w fun e w' => e = .returned (errV (a 0)) ∧ w' = w := by
  obtain ⟨s, ss, h, rfl⟩ := h
  have h0 := h.c1
  have he := h.e 0 (by omega)
  clear h
  go_enter Tryd.func11, Tryd.ntmps11
  go_wp2_with fail
  go_ret
  exact ⟨rfl, rfl⟩
set_option maxHeartbeats 400000 in
theorem sync_burn (d : Nat) {w : World} {K : Nat → Prop} {a : Nat → Addr} {vss : List (List (List Int))} (h : Disk w K a d vss false 0) :
    Calls Tryd.prog 11 #[.pointer (some ⟨d, 0, none⟩)] w fun e w' => e = .returned (errV (a 0)) ∧ Disk w' K a d vss true 0 ∧ Kept K w w' := by
  obtain ⟨s, ss, h, rfl⟩ := h
  have h0 := h.c1
  have H := hide h
  clear h
  go_enter Tryd.func11, Tryd.ntmps11
  go_wp2_with fail
  refine (spend_burn _ _ _ H.out).mono ?_
  rintro e w1 ⟨rfl, h1, k1⟩
  have H1 := hide h1
  have HK := hide k1
  clear h1 k1
  unfold errV
  go_wp2_with fail
  go_ret
  exact ⟨rfl, ⟨s, ss, H1.out, rfl⟩, HK.out⟩
/-- Behind a Sync a sector has its last version alone. -/
def synced (vs : List (List Int)) : List (List Int) := [lastV vs]
theorem sync_step {ss' : List Sec} {k : Nat} {vss : List (List (List Int))} {x : Sec} {p : Part} {n : Nat} {v' : Value} (he : vers ss' = upTo synced k vss) (hx : ss'[k]? = some x) (hp : x.vs[n]? = some p) (hn : x.vs.length = n + 1) : vers (ss'.set k ⟨v', [p]⟩) = upTo synced (k + 1) vss := by
  have h1 : (vers ss')[k]? = some (x.vs.map (·.xs)) := by rw [vers_get, hx]; rfl
  rw [he, upTo_at] at h1
  rw [vers_set, he]
  have h2 := upTo_succ synced k vss _ h1
  rw [show synced (x.vs.map (·.xs)) = [p.xs] by rw [synced, lastV_of hp hn]] at h2
  exact h2
theorem last_part {w : World} {K : Nat → Prop} {a : Nat → Addr} {d s : Nat} {ss : List Sec} {off : Bool} {fuse : Int} (h : DiskOf w K a d s ss off fuse) {k : Nat} (hk : k < ss.length) : ∃ x n p, ss[k]? = some x ∧ x.vs.length = n + 1 ∧ x.vs[n]? = some p := by
  obtain ⟨x, hx⟩ := sec_at hk
  have := (h.each x (List.mem_of_getElem? hx)).2.1
  exact ⟨x, x.vs.length - 1, _, hx, by omega, List.getElem?_eq_getElem (by omega)⟩
theorem length_of_vers {ss ss' : List Sec} {f : List (List Int) → List (List Int)} {k : Nat} (h : vers ss' = upTo f k (vers ss)) : ss'.length = ss.length := by
  have := congrArg List.length h
  rw [length_vers, length_upTo, length_vers] at this
  exact this
set_option maxHeartbeats 1000000 in
theorem sync_ok (d : Nat) {w : World} {K : Nat → Prop} {a : Nat → Addr} {vss : List (List (List Int))} {fuse : Int} (h : Disk w K a d vss false fuse) (hf : fuse ≠ 0) :
    Calls Tryd.prog 11 #[.pointer (some ⟨d, 0, none⟩)] w fun e w' => e = .returned .nilIface ∧ Disk w' K a d (vss.map synced) false (burnt fuse) ∧ Kept K w w' := by
  obtain ⟨s, ss, h, rfl⟩ := h
  have h0 := h.c1
  have hm := h.many
  have H := hide h
  clear h
  go_enter Tryd.func11, Tryd.ntmps11
  go_wp2_with fail
  refine (spend_ok _ _ _ H.out hf).mono ?_
  rintro e w1 ⟨rfl, h1, k1⟩
  have h2 := h1.c0
  have H1 := hide h1
  have HK := hide k1
  clear h1 k1 h0 H
  go_wp2_with fail
  go_loopw [20] (fun i wr => ∃ (k : Nat) (ss' : List Sec), k ≤ ss.length ∧ i = .int .i64 k ∧ DiskOf wr K a d s ss' false (burnt fuse) ∧ vers ss' = upTo synced k (vers ss) ∧ Kept K w wr) (fun i _ => ss.length - (intOf i).toNat)
  case atStart => exact ⟨0, ss, by omega, rfl, H1.out, (upTo_zero _ _).symm, HK.out⟩
  case round =>
    clear H1 HK h2
    obtain ⟨k, ss', hk, rfl, hd, he, hkept⟩ := hrel
    have hlen := length_of_vers he
    have h3 := hd.c0
    rw [hlen] at h3
    have HD := hide hd
    have HE := hide he
    have HK := hide hkept
    have HL := hide hlen
    clear hd he hkept hlen
    by_cases hlt : k < ss.length
    · obtain ⟨x, n, p, hx, hn, hp⟩ := last_part HD.out (k := k) (by rw [HL.out]; exact hlt)
      have HX := hide hx
      have HN := hide hn
      have HP := hide hp
      clear hx hn hp
      have hki : (k : Int) < (ss.length : Int) := by omega
      go_wp2_with fail
      go_region_held3 (fun w' => w'.cell? ⟨d, 0, none⟩ = some (.slice (some ⟨s, 0, none⟩) ss.length ss.length)) (first | go_keep | assumption)
        (first
          | (go_at_call 28; refine (sec_loose HD.out.drew HX.out).mono ?_; rintro e w2 ⟨rfl, rfl⟩)
          | (go_at_call 27; refine (sec_keep_int HD.out.drew HX.out n _ (by have := HN.out; omega) p HP.out).mono ?_; rintro e w2 ⟨rfl, v', h4, k4⟩; have h5 := h4.c0; rw [List.length_set, HL.out] at h5; have H4 := hide h4; have HK4 := hide k4.of_drew; clear h4 k4))
      go_wp2_with fail
      go_roundw
      case rel => exact ⟨k + 1, _, by omega, by go_num, H4.out, sync_step HE.out HX.out HP.out HN.out, HK.out.trans HK4.out⟩
      case measure => simp [intOf]; omega
    · go_wp2_with fail
      go_ret
      have hk' : k = ss.length := by omega
      refine ⟨rfl, ⟨s, ss', HD.out, ?_⟩, HK.out⟩
      rw [HE.out, hk', ← length_vers, upTo_all]
end Go.Proofs.YtedmgdiimfenaaaDoor
