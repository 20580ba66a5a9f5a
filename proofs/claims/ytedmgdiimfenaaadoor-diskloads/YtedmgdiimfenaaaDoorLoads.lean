
/- What a disk's Load answers, at every disk and every list of lists of bytes. -/
import Derived.Test.YtedmgdiimfenaaaDoorImages
namespace Go.Proofs.YtedmgdiimfenaaaDoor
open Go.RowKit
set_option linter.unusedVariables false

set_option maxHeartbeats 400000 in
theorem load_range (d : Nat) (lo : Option Addr) (n lc : Nat) {w : World} {K : Nat → Prop} {a : Nat → Addr} {vss : List (List (List Int))} {off : Bool} {fuse : Int} (h : Disk w K a d vss off fuse) (hn : n ≠ vss.length) :
    Calls Tryd.prog 23 #[.pointer (some ⟨d, 0, none⟩), .slice lo n lc] w fun e w' => e = .returned (errV (a 1)) ∧ w' = w := by
  obtain ⟨s, ss, h, rfl⟩ := h
  rw [length_vers] at hn
  have h0 := h.c0
  have he := h.e 1 (by omega)
  clear h
  have hne : ((n : Int) != (ss.length : Int)) = true := by simp; omega
  go_enter Tryd.func23, Tryd.ntmps23
  go_wp2_with fail
  go_ret
  exact ⟨rfl, rfl⟩
set_option maxHeartbeats 400000 in
theorem load_short (d : Nat) (lo : Option Addr) (lc : Nat) (ls : List Part) {w : World} {K : Nat → Prop} {a : Nat → Addr} {vss : List (List (List Int))} {off : Bool} {fuse : Int} (h : Disk w K a d vss off fuse) (hr : Rows2 w lo ls) (N : Nat) (hN : ls.length = N) (hn : N = vss.length) (hs : ∃ p ∈ ls, p.xs.length ≠ 256) :
    Calls Tryd.prog 23 #[.pointer (some ⟨d, 0, none⟩), .slice lo N lc] w fun e w' => e = .returned (errV (a 2)) ∧ w' = w := by
  obtain ⟨s, ss, h, rfl⟩ := h
  rw [length_vers] at hn
  have h0 := h.c0
  have hm := h.many
  have he := h.e 2 (by omega)
  clear h
  obtain ⟨r0, r1, r2⟩ := hr
  have HS := hide hs
  have HN := hide hN
  have hne : ((N : Int) != (ss.length : Int)) = false := by simp; omega
  rw [← hn] at h0 hne hm
  clear hs hN hn r1
  go_enter Tryd.func23, Tryd.ntmps23
  go_wp2_with fail
  go_loop [20] (fun i => ∃ k : Nat, k ≤ N ∧ i = .int .i64 k ∧ ∀ (j : Nat) p, j < k → ls[j]? = some p → p.xs.length = 256) (fun i => N - (intOf i).toNat)
  case atStart => exact ⟨0, by omega, rfl, fun j p hj => by omega⟩
  case round =>
    obtain ⟨k, hk, rfl, hall⟩ := hrel
    have HA := hide hall
    clear hall
    by_cases hlt : k < N
    · have hkl : k < ls.length := by rw [HN.out]; exact hlt
      obtain ⟨b, o, rfl, hb, hc⟩ := r2 (by omega)
      have hcp := hc k hkl
      obtain ⟨p, hp⟩ : ∃ p, p = ls[k] := ⟨_, rfl⟩
      rw [← hp, Part.val] at hcp
      have HP : Hid (ls[k]? = some p) := by show ls[k]? = some p; rw [hp]; exact List.getElem?_eq_getElem hkl
      have hki : (k : Int) < (N : Int) := by omega
      clear hc r2 hp
      by_cases h256 : p.xs.length = 256
      · have HN2 : Hid (∀ (j : Nat) q, j < k + 1 → ls[j]? = some q → q.xs.length = 256) := by
          intro j q hj hq
          by_cases e : j = k
          · rw [e, HP.out] at hq
            cases hq
            exact h256
          · exact HA.out j q (by omega) hq
        rw [h256] at hcp
        clear HP
        go_wp2_with fail
        go_round
        case rel => exact ⟨k + 1, by omega, by go_num, HN2.out⟩
        case measure => simp [intOf]; omega
      · obtain ⟨m, hm'⟩ : ∃ m, m = p.xs.length := ⟨_, rfl⟩
        rw [← hm'] at hcp h256
        have hne2 : ((m : Int) != 256) = true := by simp; omega
        clear hm'
        go_wp2_with fail
        go_ret
        exact ⟨rfl, rfl⟩
    · exfalso
      obtain ⟨p, hp, hps⟩ := HS.out
      obtain ⟨j, hj⟩ := List.getElem?_of_mem hp
      have := (List.getElem?_eq_some_iff.1 hj).1
      exact hps (HA.out j p (by have := HN.out; omega) hj)

/-- What a disk has of the lists that were loaded, the first k of them. -/
theorem load_step {ss' : List Sec} {k : Nat} {ls : List Part} {vss : List (List (List Int))} {x : Sec} {v' : Value} {q : Part} {p : Part} (he : vers ss' = (ls.take k).map (fun p => [p.xs]) ++ vss.drop k) (hp : ls[k]? = some p) (hq : q.xs = p.xs) (hx : ss'[k]? = some x) : vers (ss'.set k ⟨v', [q]⟩) = (ls.take (k + 1)).map (fun p => [p.xs]) ++ vss.drop (k + 1) := by
  have hkl := (List.getElem?_eq_some_iff.1 hp).1
  have hks := (List.getElem?_eq_some_iff.1 hx).1
  have hkv : k < vss.length := by
    have := congrArg List.length he
    rw [length_vers] at this
    simp at this
    omega
  have e : vss.drop k = vss[k] :: vss.drop (k + 1) := List.drop_eq_getElem_cons hkv
  rw [vers_set, he, e, take_snoc_any hp, List.map_append, List.set_append_right _ _ (by simp; omega)]
  simp [hq, Nat.min_eq_left (Nat.le_of_lt hkl)]
  rw [e]
  rfl
theorem load_len {ss' : List Sec} {k : Nat} {ls : List Part} {vss : List (List (List Int))} (he : vers ss' = (ls.take k).map (fun p => [p.xs]) ++ vss.drop k) (hl : ls.length = vss.length) (hk : k ≤ ls.length) : ss'.length = vss.length := by
  have := congrArg List.length he
  rw [length_vers] at this
  simp at this
  omega
set_option maxHeartbeats 1000000 in
theorem load_ok (d : Nat) (lo : Option Addr) (lc : Nat) (ls : List Part) {w : World} {K : Nat → Prop} {a : Nat → Addr} {vss : List (List (List Int))} {off : Bool} {fuse : Int} (h : Disk w K a d vss off fuse) (hr : Rows2 w lo ls) (N : Nat) (hN : ls.length = N) (hn : N = vss.length) (hs : ∀ p ∈ ls, p.xs.length = 256)
    (hK : ∀ b o, lo = some ⟨b, o, none⟩ → K b) (hKp : ∀ p ∈ ls, ∀ b o, p.ao = some ⟨b, o, none⟩ → K b) :
    Calls Tryd.prog 23 #[.pointer (some ⟨d, 0, none⟩), .slice lo N lc] w fun e w' => e = .returned .nilIface ∧ Disk w' K a d (ls.map fun p => [p.xs]) false (-1) ∧ Kept K w w' := by
  obtain ⟨s, ss, h, rfl⟩ := h
  rw [length_vers] at hn
  have h0 := h.c0
  have hm := h.many
  have H := hide h
  have HR := hide hr
  obtain ⟨r0, r1, r2⟩ := hr
  have HS := hide hs
  have HN := hide hN
  have HNN := hide hn
  have HK := hide hK
  have HKP := hide hKp
  have R1 := hide r1
  have R2 := hide r2
  have hne : ((N : Int) != (ss.length : Int)) = false := by simp; omega
  rw [← hn] at h0 hne hm
  clear hs hN hn r1 r2 hK hKp h
  go_enter Tryd.func23, Tryd.ntmps23
  go_wp2_with fail
  go_loop [20] (fun i => ∃ k : Nat, k ≤ N ∧ i = .int .i64 k) (fun i => N - (intOf i).toNat)
  case atStart => exact ⟨0, by omega, rfl⟩
  case round =>
    obtain ⟨k, hk, rfl⟩ := hrel
    by_cases hlt : k < N
    · have hkl : k < ls.length := by rw [HN.out]; exact hlt
      obtain ⟨b, o, rfl, hb, hc⟩ := R2.out (by omega)
      have hcp := hc k hkl
      rw [Part.val, HS.out _ (List.getElem_mem hkl)] at hcp
      obtain ⟨po, hpo⟩ : ∃ po, po = ls[k].ao := ⟨_, rfl⟩
      obtain ⟨pc, hpc⟩ : ∃ pc, pc = ls[k].cap := ⟨_, rfl⟩
      rw [← hpo, ← hpc] at hcp
      have hki : (k : Int) < (N : Int) := by omega
      clear hc hpo hpc
      go_wp2_with fail
      go_round
      case rel => exact ⟨k + 1, by omega, by go_num⟩
      case measure => simp [intOf]; omega
    · go_wp2_with fail
      go_loopw [31] (fun i wr => ∃ (k : Nat) (ss' : List Sec), k ≤ N ∧ i = .int .i64 k ∧ DiskOf wr K a d s ss' off fuse ∧ vers ss' = (ls.take k).map (fun p => [p.xs]) ++ (vers ss).drop k ∧ Kept K w wr) (fun i _ => N - (intOf i).toNat)
      case atStart => exact ⟨0, ss, by omega, rfl, H.out, by simp, Kept.refl _ _⟩
      case round =>
        clear hlt hk
        obtain ⟨k, ss', hk, rfl, hd, he, hkept⟩ := hrel
        have hlen := load_len he (by rw [HN.out, length_vers, HNN.out]) (by rw [HN.out]; exact hk)
        rw [length_vers, ← HNN.out] at hlen
        have h1 := hd.c0
        rw [hlen] at h1
        have HD := hide hd
        have HE := hide he
        have HKT := hide hkept
        have HL := hide hlen
        clear hd he hkept hlen
        by_cases hlt : k < N
        · have hkl : k < ls.length := by rw [HN.out]; exact hlt
          obtain ⟨b, o, rfl, hb, hc⟩ := R2.out (by omega)
          have hcp := hc k hkl
          have hmem := List.getElem_mem hkl
          have hxl := HS.out _ hmem
          have hpin := R1.out _ hmem
          have hkp := HKP.out _ hmem
          have HPK : Hid (ls[k]? = some ls[k]) := List.getElem?_eq_getElem hkl
          obtain ⟨p, hp⟩ : ∃ p, p = ls[k] := ⟨_, rfl⟩
          rw [← hp] at hcp hxl hpin hkp HPK
          rw [Part.val, hxl, ← HKT.out.cell (by exact HK.out b o rfl)] at hcp
          clear hc hp
          obtain ⟨x, hx⟩ := sec_at (ss := ss') (k := k) (by rw [HL.out]; exact hlt)
          have hcs := HD.out.cs hx
          have hfs := HD.out.fs k
          obtain ⟨gx, cx, hvx, _, _⟩ := HD.out.sec hx
          obtain ⟨mx, hmx⟩ : ∃ mx, mx = x.vs.length := ⟨_, rfl⟩
          rw [← hmx] at hvx
          rw [hvx] at hcs
          have HVX := hide hvx
          clear hmx
          clear hvx
          have hki : (k : Int) < (N : Int) := by omega
          have HX := hide hx
          have hrow : Row wr p.ao p.xs := by
            obtain ⟨q0, q1, q2⟩ := hpin.1
            refine ⟨q0, q1, fun hp0 => ?_⟩
            obtain ⟨b', o', e', hb', hc'⟩ := q2 hp0
            refine ⟨b', o', e', by have := HKT.out.size; omega, fun i hi => ?_⟩
            rw [HKT.out.cell (by exact hkp b' o' e')]
            exact hc' i hi
          have HROW := hide hrow
          clear hpin hkp hrow hx hmem hkl
          obtain ⟨po, pc, px⟩ := p
          simp only at hcp hxl HROW
          go_wp2_with fail
          go_region_held3 (fun w' => w'.cell? ⟨d, 0, none⟩ = some (.slice (some ⟨s, 0, none⟩) N N)) (first | go_keep | assumption)
            ((go_at_call 30; refine (clone_len po 256 pc px _ (by exact HROW.out) hxl (by omega)).mono ?_; rintro e w2 ⟨g', c', rfl, hg', hown2, hbel2⟩; have hbel2 := of_drew hbel2; have H2 := hide (HD.out.belowD hbel2); have hc2 := H2.out.c0; rw [HL.out] at hc2; have hcs2 := H2.out.cs HX.out; rw [HVX.out] at hcs2; have hfs2 := H2.out.fs k; have hn2 := World.new_ne w2 ⟨d, 0, none⟩ hc2; have hs2 := lt_of_block H2.out.secs; have hn3 : w2.heap.size ≠ s := Nat.ne_of_gt hs2; have hn4 : s ≠ w2.heap.size := Nat.ne_of_lt hs2; have hcs3 : ∀ x, (w2.alloc x).cell? ⟨s, k, none⟩ = some (.slice (some ⟨gx, 0, none⟩) mx cx) := fun x => (World.cell?_of_block (w := w2) (Below.heap_alloc _ _ _ hs2)).trans hcs2; have hfs3 : ∀ x, (w2.alloc x).frozen? ⟨s, k, none⟩ = false := fun x => (World.frozen?_of_block (w := w2) (Below.heap_alloc _ _ _ hs2)).trans hfs2; have h4 := H2.out.fresh HX.out ⟨some ⟨g', 0, none⟩, c', px⟩ hown2.any hxl (not_low HD.out.low hg'); rw [Part.val, hxl] at h4; have hc4 := h4.1.c0; rw [List.length_set, HL.out] at hc4; have H4 := hide h4; have HB2 := hide hbel2; clear hown2 hbel2 hg' h4))
          clear hcs3 hfs3 hcs2 hfs2
          go_wp2_with fail
          go_roundw
          case rel => exact ⟨k + 1, _, by omega, by go_num, H4.out.1, load_step HE.out HPK.out rfl HX.out, (HKT.out.trans (Kept.of_below HB2.out HD.out.low)).trans H4.out.2⟩
          case measure => simp [intOf]; omega
        · have hk' : k = N := by omega
          go_wp2_with fail
          refine (powerOn_any d s ss' HD.out).mono ?_
          rintro e w2 ⟨rfl, h5, k5⟩
          have H5 := hide h5
          have HK5 := hide k5
          clear h5 k5
          go_wp2_with fail
          go_ret
          refine ⟨rfl, ⟨s, ss', H5.out, ?_⟩, HKT.out.trans HK5.out⟩
          rw [HE.out, hk', List.take_of_length_le (by rw [HN.out]; exact Nat.le_refl _), List.drop_of_length_le (by rw [length_vers, ← HNN.out]; exact Nat.le_refl _), List.append_nil]
end Go.Proofs.YtedmgdiimfenaaaDoor
