/- Lemmas and contracts that the law stands on, joined: RFlush. -/
import Derived.Test.YtjacenhblclkaaaGreatDoorJoin22
import Derived.Test.YtjacenhblclkaaaGreatDoorJoin32
import Derived.Test.YtjacenhblclkaaaGreatDoorJoin34
import Derived.Test.YtjacenhblclkaaaGreatDoorJoin30
/- The document's own log: what its Flush does. -/
namespace Go.Proofs.YtjacenhblclkaaaGreatDoor
open Go.RowKit
set_option linter.unusedVariables false

set_option maxHeartbeats 1000000 in
theorem rwrite_off {w : World} {M : Nat → Prop} {y s cap : Nat} {vss : List (List (List Int))} {left : Int} (h : RD w M y s cap vss left true) (i : Int) (v : Value) :
    Calls Tryz.prog 32 #[.pointer (some ⟨y, 0, none⟩), .int .i64 i, v] w fun e w' => e = .returned (.int .i64 101) ∧ w' = w := by
  have c2 := h.c2
  clear h
  go_enter Tryz.func32, Tryz.ntmps32
  go_wp2_with fail
  go_ret
  exact ⟨rfl, rfl⟩
theorem enters68 : Enters Tryz.prog 68 := enters Tryz.func68 (by kernel_rfl) (by kernel_rfl)
theorem enters32 : Enters Tryz.prog 32 := enters Tryz.func32 (by kernel_rfl) (by kernel_rfl)
theorem burnt_bd {f : Int} (h : -1 ≤ f ∧ f ≤ 9223372036854775807) : -1 ≤ burnt f ∧ burnt f ≤ 9223372036854775807 := by
  unfold burnt
  split <;> omega
/-- What the disk reads, and what is new. -/
def plus (M : Nat → Prop) (w w' : World) : Nat → Prop := fun g => M g ∨ (w.heap.size ≤ g ∧ g < w'.heap.size)
theorem rwrite_uni {w : World} {M : Nat → Prop} {y s cap : Nat} {vss : List (List (List Int))} {left : Int} {gone : Bool} (h : RD w M y s cap vss left gone) (i : Nat) (hi : i < vss.length) (hl : -1 ≤ left ∧ left ≤ 9223372036854775807) (hbig : ∀ vs ∈ vss, vs.length ≤ 1000000) (xo : Option Addr) (xc : Nat) (xs : List Int) (hrow : Row w xo xs) (hx : xs.length = 256) :
    Calls Tryz.prog 32 #[.pointer (some ⟨y, 0, none⟩), .int .i64 i, .slice xo 256 xc] w fun e w' => ∃ cd : Int, e = .returned (.int .i64 cd) ∧ Only2 y s w w' ∧ (gone = true → cd = 101 ∧ RD w' (plus M w w') y s cap vss left true) ∧
      (gone = false → left ≠ 0 → cd = 0 ∧ RD w' (plus M w w') y s cap (addS vss i xs) (burnt left) false) ∧ (gone = false → left = 0 → cd = 101 ∧ RD w' (plus M w w') y s cap (addS vss i xs) 0 true) := by
  cases gone with
  | true => exact (rwrite_off h i _).mono fun e w' hh => ⟨101, hh.1, by rw [hh.2]; exact Only2.refl _ _ _, fun _ => ⟨rfl, by rw [hh.2]; exact h.wide fun k hk => .inl hk⟩, fun h1 => Bool.noConfusion h1, fun h1 => Bool.noConfusion h1⟩
  | false =>
    refine (rwrite_any h i hi hl.1 hl.2 hbig xo xc xs hrow hx).mono fun e w' hh => ⟨_, hh.1, hh.2.2, fun h1 => Bool.noConfusion h1, fun _ h2 => ?_, fun _ h2 => ?_⟩
    · have h3 := hh.2.1
      rw [if_neg h2, decide_eq_false h2] at h3
      rw [if_neg h2]
      exact ⟨rfl, h3⟩
    · have h3 := hh.2.1
      rw [if_pos h2, decide_eq_true h2] at h3
      rw [if_pos h2]
      exact ⟨rfl, h3⟩
theorem rb_good {e : Int} {ao : Option Addr} {n cap : Nat} {rs : List R} {w : World} (h : RecRow w ao rs) (hn : rs.length = n) (hok : okB e rs = true) :
    Calls Tryz.prog 68 #[.int .i64 e, .slice ao n cap] w fun r w' => ∃ xo xc, r = .returned (.tuple #[.slice xo 256 xc, .int .i64 0]) ∧ Row w' xo (blockB e rs) ∧ Below w.heap.size w w' := by
  refine (rb_uni h hn).mono ?_
  rintro r w' ⟨xo, xn, xc, rfl, h1, _, h2, h3⟩
  have e1 : ansB e rs = blockB e rs := by unfold ansB; rw [hok]; rfl
  have e2 : codB e rs = 0 := by unfold codB; rw [hok]; rfl
  rw [e1] at h1 h2
  rw [length_blockB _ _ ((okB_iff e rs).1 hok).1.2.2.2] at h1
  subst h1
  rw [e2]
  exact ⟨xo, xc, rfl, h2, h3⟩
theorem addS_all {vs : List (List (List Int))} {k F : Nat} {b : List Int} (h : ∀ j, F + k ≤ j → (vs.getD j []).length ≤ 1000) (h3 : ∀ j, (vs.getD j []).length ≤ 1001) : ∀ j, ((addS vs (F + k) b).getD j []).length ≤ 1001 := by
  intro j
  refine Nat.le_trans (addS_len _ _ _ _) ?_
  split
  · have := h (F + k) (Nat.le_refl _); omega
  · exact h3 j
theorem big_of {vs : List (List (List Int))} (h : ∀ j, (vs.getD j []).length ≤ 1001) : ∀ x ∈ vs, x.length ≤ 1000000 := by
  intro x hx
  obtain ⟨j, hj⟩ := List.getElem?_of_mem hx
  have := h j
  rw [List.getD_eq_getElem?_getD, hj] at this
  simp only [Option.getD_some] at this
  omega
section
variable {w w' : World} {L M : Nat → Prop} {z y s cap F N : Nat} {vss : List (List (List Int))} {left : Int} {gone : Bool} {base ep : Int} {ao : Option Addr} {c : Nat} {rs : List R} {D : Nat}
/-- The log stays while its own disk alone turns. -/
theorem RL.only (h : RL w L z y F N base ep ao c rs D) {y' s' : Nat} (ho : Only2 y' s' w w') (hy : ¬ L y') (hs : ¬ L s') : RL w' L z y F N base ep ao c rs D := by
  refine ⟨(ho.block z h.lt (fun e => hy (e ▸ h.mz)) (fun e => hs (e ▸ h.mz))).trans h.head, ⟨h.row.1, fun hp => ?_⟩, h.cap, h.mrow, h.mz⟩
  obtain ⟨b, off, e, hc⟩ := h.row.2 hp
  have hb := h.mrow b off e hp
  exact ⟨b, off, e, fun i r hi => (hc i r hi).of_block (ho.block b (hc i r hi).lt (fun e => hy (e ▸ hb)) (fun e => hs (e ▸ hb))) ho.size⟩
theorem RL.drewN (h : RL w L z y F N base ep ao c rs D) (m : Nat) : RL (w.drewN m) L z y F N base ep ao c rs D := h.step (below_drewN (Below.refl _ _) m)
theorem RD.drewN (h : RD w M y s cap vss left gone) (m : Nat) : RD (w.drewN m) M y s cap vss left gone := h.step (below_drewN (Below.refl _ _) m)
/-- What became of it: power was off; the fuse went with a block; it went with the Sync; all went well. -/
def rflPost (M L : Nat → Prop) (w : World) (z y s cap : Nat) (vss : List (List (List Int))) (left : Int) (gone : Bool) (F N : Nat) (base ep : Int) (ao : Option Addr) (c : Nat) (rs : List R) (D : Nat) (G : List (List (List Int)) × Int × Bool) (cd : Int) (w' : World) : Prop :=
  (gone = true ∧ cd = 101 ∧ RL w' L z y F N base ep ao c rs D ∧ RD w' (plus M w w') y s cap vss left true) ∨ (gone = false ∧ G.2.2 = false ∧ cd = 101 ∧ RL w' L z y F N base ep ao c rs D ∧ RD w' (plus M w w') y s cap G.1 G.2.1 true) ∨
  (gone = false ∧ G.2.2 = true ∧ G.2.1 = 0 ∧ cd = 101 ∧ RL w' L z y F N base ep ao c rs D ∧ RD w' (plus M w w') y s cap G.1 0 true) ∨ (gone = false ∧ G.2.2 = true ∧ G.2.1 ≠ 0 ∧ cd = 0 ∧ RL w' L z y F N base ep ao c rs rs.length ∧ RD w' (plus M w w') y s cap (G.1.map synced) (burnt G.2.1) false)
/-- None of the blocks that were there turned but these three. -/
def Only3 (z y s : Nat) (w w' : World) : Prop := w'.os = w.os ∧ w'.tape = w.tape ∧ w'.output = w.output ∧ w.heap.size ≤ w'.heap.size ∧ ∀ k, k < w.heap.size → k ≠ z → k ≠ y → k ≠ s → w'.heap[k]? = w.heap[k]?
theorem Only3.of2 (h : Only2 y s w w') : Only3 z y s w w' := ⟨h.os, h.tape, h.output, h.size, fun k hk _ h1 h2 => h.block k hk h1 h2⟩
set_option maxRecDepth 100000 in
set_option maxHeartbeats 2000000 in
theorem rflush_same (hl : RL w L z y F N base ep ao c rs D) (hb : 0 ≤ base ∧ base + rs.length ≤ 1073741824) (hs : rs.length ≤ 1000) (hD : D = rs.length) : Calls Tryz.prog 17 #[.pointer (some ⟨z, 0, none⟩)] w fun e w' => e = .returned (.int .i64 0) ∧ ∃ m, w' = w.drewN m := by
  obtain ⟨n, hn⟩ : ∃ n, n = rs.length := ⟨_, rfl⟩
  have c3 := hl.c3
  have c5 := hl.c5 hn.symm
  have c6 := hl.c6
  rw [hD, ← hn] at c6
  rw [← hn] at hb hs
  have HQ : Hid (∀ m, Calls Tryz.prog 38 #[.pointer (some ⟨z, 0, none⟩)] (w.drewN m) fun e w' => e = .returned (.int .i64 (base + n)) ∧ ∃ k, w' = (w.drewN m).drewN k) := fun m =>
    (rlast_cells z base ao n c (w.drewN m) c3 c5 (by omega) (by omega))
  clear hl hn hD
  go_enter Tryz.func17, Tryz.ntmps17
  go_wp2_with fail
  go_quiet ((go_at_call 38; exact Calls.quiet_of (HQ.out _)))
  go_wp2_with fail
  go_ret
  exact ⟨rfl, _, rfl⟩
theorem plus_more {w wr w1 w2 : World} (h1 : w.heap.size ≤ wr.heap.size) (h2 : wr.heap.size ≤ w1.heap.size) (h3 : w1.heap.size ≤ w2.heap.size) (g : Nat) (h : plus (plus M w wr) w1 w2 g) : plus M w w2 g := by
  unfold plus at h ⊢
  rcases h with (h | h) | h
  · exact .inl h
  · exact .inr ⟨h.1, by omega⟩
  · exact .inr ⟨by omega, h.2⟩
theorem rfl_mark {w1 : World} (h : RL w1 L z y F N base ep ao c rs D) (hd : RD w1 (plus M w w1) y s cap vss left gone) (ho : Only2 y s w w1) (hMz : ¬ M z) (hz : z < w.heap.size) (n : Nat) (hn : rs.length = n) (q : Nat) :
    RL ((w1.drewN q).setCell ⟨z, 6, none⟩ (.int .i64 (base + n))) L z y F N base ep ao c rs rs.length ∧ RD ((w1.drewN q).setCell ⟨z, 6, none⟩ (.int .i64 (base + n))) (plus M w ((w1.drewN q).setCell ⟨z, 6, none⟩ (.int .i64 (base + n)))) y s cap vss left gone ∧ Only3 z y s w ((w1.drewN q).setCell ⟨z, 6, none⟩ (.int .i64 (base + n))) := by
  subst hn
  have hs : ((w1.drewN q).setCell ⟨z, 6, none⟩ (.int .i64 (base + rs.length))).heap.size = w1.heap.size := by simp [World.setCell]
  have hb : ∀ g, g ≠ z → ((w1.drewN q).setCell ⟨z, 6, none⟩ (.int .i64 (base + rs.length))).heap[g]? = w1.heap[g]? := fun g hg => Below.heap_setCell _ _ _ _ hg
  refine ⟨(h.drewN q).mark rs.length, ?_, ho.os, ho.tape, ho.output, by rw [hs]; exact ho.size, fun k hk h1 h2 h3 => (hb k h1).trans (ho.block k hk h2 h3)⟩
  refine (hd.kept (by rw [hs]; exact Nat.le_refl _) fun g hg => hb g ?_).wide fun g hg => ?_
  · rintro rfl
    rcases hg with hg | hg
    · exact hMz hg
    · omega
  · unfold plus at hg ⊢
    rw [hs]
    exact hg
set_option maxRecDepth 100000 in
set_option maxHeartbeats 4000000 in
theorem rflush_go (hl : RL w L z y F N base ep ao c rs D) (hd : RD w M y s cap vss left gone) (hLy : ¬ L y) (hLs : ¬ L s) (hMz : ¬ M z) (hb : 0 ≤ base ∧ base + rs.length ≤ 1073741824) (hep : 1 ≤ ep ∧ ep ≤ 1073741824) (hFN : F + N ≤ vss.length) (h6 : rs.length ≤ 6 * N) (hDl : D ≤ rs.length) (hN : N ≤ 100) (hgood : ∀ r ∈ rs, goodB r = true) (hleft : -1 ≤ left ∧ left ≤ 9223372036854775807) (hD : D ≠ rs.length) (hv : verBd vss 1000) :
    Calls Tryz.prog 17 #[.pointer (some ⟨z, 0, none⟩)] w fun e w' => ∃ cd : Int, e = .returned (.int .i64 cd) ∧ rflPost M L w z y s cap vss left gone F N base ep ao c rs D (wrUp F ep rs (blocksOf rs.length - D / 6) (D / 6) vss left) cd w' ∧ Only3 z y s w w' := by
  obtain ⟨b, o, rfl, hc⟩ := hl.row.2 (by omega)
  have hcap := hl.cap
  clear hc
  obtain ⟨n, hn⟩ : ∃ n, n = rs.length := ⟨_, rfl⟩
  rw [← hn] at hcap
  have c3 := hl.c3
  have c5 := hl.c5 hn.symm
  have c6 := hl.c6
  have hmany := hd.many
  have hnb : n ≤ 600 := by omega
  have hdb : D ≤ 600 := by omega
  have hbb : base ≤ 1073741824 := by omega
  have hb0 := hb.1
  have hne : ((base + (D : Int)) == (base + (n : Int))) = false := by simp; omega
  have hne2 : ((D : Int) == (n : Int)) = false := by simp; omega
  have hsub : base + (D : Int) - base = D := by omega
  obtain ⟨k0, hk⟩ : ∃ k0, k0 = D / 6 := ⟨_, rfl⟩
  have hq : (D : Int) / 6 = (k0 : Int) := by omega
  have hkb : k0 ≤ 100 := by omega
  have hk6 : 6 * k0 < n := by omega
  rw [← hk]
  obtain ⟨G, hG⟩ : ∃ G, wrUp F ep rs (blocksOf rs.length - k0) k0 vss left = G := ⟨_, rfl⟩
  rw [hG]
  obtain ⟨B, hB⟩ : ∃ B, B = blocksOf rs.length := ⟨_, rfl⟩
  have hB1 := (blocks_bd rs.length).1
  have hB2 := (blocks_bd rs.length).2
  rw [← hB] at hG hB1 hB2
  rw [← hn] at hB1 hB2
  have HB : Hid (6 * B < n + 6 ∧ n ≤ 6 * B) := ⟨hB1, hB2⟩
  have HL := hide hl
  have HD := hide hd
  have HN : Hid (rs.length = n) := hn.symm
  have HV := hide hv
  have HG := hide hG
  have HZ : Hid (z < w.heap.size) := hl.lt
  have HBD : Hid (F + N ≤ vss.length ∧ vss.length ≤ 200 ∧ n ≤ 6 * N ∧ n ≤ 600 ∧ k0 ≤ B) := ⟨hFN, hmany, by omega, by omega, by omega⟩
  have HLE := hide hleft
  have HQ : Hid (∀ m, Calls Tryz.prog 38 #[.pointer (some ⟨z, 0, none⟩)] (w.drewN m) fun e w' => e = .returned (.int .i64 (base + n)) ∧ ∃ k, w' = (w.drewN m).drewN k) := fun m =>
    (rlast_cells z base (some ⟨b, o, none⟩) n c (w.drewN m) c3 c5 (by omega) (by omega))
  have HNB : Hid (0 ≤ base ∧ base + n ≤ 1073741824) := ⟨by omega, by omega⟩
  clear hl hd hn hDl hb hv hk hG hB hB1 hB2 hmany h6 hN hFN hD hleft
  go_enter Tryz.func17, Tryz.ntmps17
  go_wp2_with fail
  go_quiet ((go_at_call 38; exact Calls.quiet_of (HQ.out _)))
  go_wp2_with fail
  go_quiet (fail)
  go_wp2_with fail
  go_loopw [3] (fun i wr => ∃ (k : Nat) (vs : List (List (List Int))) (f : Int), i = .int .i64 k ∧ k ≤ B ∧ vs.length = vss.length ∧ (-1 ≤ f ∧ f ≤ 9223372036854775807) ∧ (gone = true → vs = vss ∧ f = left ∧ k = k0) ∧ (gone = false → wrUp F ep rs (B - k) k vs f = G) ∧ (∀ j, F + k ≤ j → (vs.getD j []).length ≤ 1000) ∧ (∀ j, (vs.getD j []).length ≤ 1001) ∧ RL wr L z y F N base ep (some ⟨b, o, none⟩) c rs D ∧ RD wr (plus M w wr) y s cap vs f gone ∧ Only2 y s w wr) (fun i _ => B - (intOf i).toNat)
  case atStart => exact ⟨k0, vss, left, rfl, HBD.out.2.2.2.2, rfl, HLE.out, fun _ => ⟨rfl, rfl, rfl⟩, fun _ => HG.out, fun j _ => HV.out j, fun j => Nat.le_trans (HV.out j) (by omega), (HL.out.drewN _).drewN _, ((HD.out.drewN _).drewN _).wide fun k hk => Or.inl hk, Only2.of_below (below_drewN (below_drewN (Below.refl _ _) _) _)⟩
  case round =>
    clear c3 c5 c6 HL HD HV hne hne2 hsub hq
    obtain ⟨k, vs, f, rfl, hkB, hlen, hf, hoff, hon, hv2, hv3, hlog, hdisk, honly⟩ := hrel
    have HL := hide hlog
    have HD := hide hdisk
    have HOFF := hide hoff
    have HON := hide hon
    have HV2 := hide hv2
    have HV3 := hide hv3
    have HF := hide hf
    have HO := hide honly
    have HLEN := hide hlen
    have c5 := HL.out.c5 HN.out
    have hkk : k ≤ 100 := by have := HB.out; have := HBD.out; omega
    clear hlog hdisk honly hoff hon hv2 hv3 hf hlen
    by_cases hlt : 6 * k < n
    · have hki : (k : Int) * 6 < (n : Int) := by omega
      obtain ⟨f6, hf6⟩ : ∃ f6, f6 = 6 * k := ⟨_, rfl⟩
      obtain ⟨T, hT⟩ : ∃ T, T = min (6 * k + 6) n := ⟨_, rfl⟩
      have e1 : (k : Int) * 6 = (f6 : Int) := by omega
      have e2a : ((k : Int) + 1) * 6 = (f6 : Int) + 6 := by omega
      have e2 : min ((f6 : Int) + 6) (n : Int) = (T : Int) := by omega
      have e3 : f6 < T := by omega
      have e4 : T ≤ n := by omega
      have e5 : ¬ c = f6 := by omega
      have e7 : (f6 : Int) ≤ (T : Int) := by omega
      have e8 : (T : Int) ≤ (c : Int) := by omega
      have e9 : f6 ≤ T := by omega
      have e10 : T ≤ c := by omega
      have c4 := HL.out.c4
      have hck : chunk rs k = (rs.drop f6).take (T - f6) := by
        unfold chunk
        rw [← hf6]
        have := HN.out
        by_cases h6 : 6 * k + 6 ≤ n
        · rw [show T - f6 = 6 by omega]
        · rw [List.take_of_length_le (by rw [List.length_drop]; omega), List.take_of_length_le (by rw [List.length_drop]; omega)]
      have hcl : (chunk rs k).length = T - f6 := by have := HN.out; rw [length_chunk]; omega
      have HROW : Hid (RecRow wr (some ⟨b, o + f6 * 10, none⟩) (chunk rs k)) := by
        show RecRow _ _ _
        rw [hck]
        have hn' := HN.out
        obtain ⟨b', o', e, hc⟩ := HL.out.row.2 (by omega)
        simp only [Option.some.injEq, Addr.mk.injEq] at e
        obtain ⟨rfl, rfl, _⟩ := e
        exact RecRow.cutAt hc (by omega) f6 (T - f6)
      have HOK : Hid (okB ep (chunk rs k) = true) := (okB_iff _ _).2 ⟨⟨hep.1, hep.2, by omega, by omega⟩, fun r hr => hgood r (mem_chunk (q := 6) (by rw [chunk_self]; exact hr))⟩
      have HCL := hide hcl
      have HCH : Hid ((chunk rs k).length ≤ 6) := by show (chunk rs k).length ≤ 6; omega
      obtain ⟨sn, hsn⟩ : ∃ sn, sn = F + k := ⟨_, rfl⟩
      have HFI : Hid (sn < vs.length) := by show sn < _; have := HBD.out; have := HB.out; have := HLEN.out; omega
      have hFi : (F : Int) + (k : Int) = (sn : Int) := by omega
      have HFW : Hid (IntKind.i64.wrap (sn : Int) = (sn : Int)) := by show _ = _; have := HFI.out; have := HLEN.out; have := HBD.out; rw [IntKind.wrap_i64]; omega
      have HSN := hide hsn
      have HCK := hide hck
      clear hsn hck hcl hf6 hT hki
      have hki : (k : Int) * 6 < (n : Int) := by omega
      go_wp2_with fail
      have HB0 : Hid (Below wr.heap.size wr wr.drew) := below_drew (Below.refl _ _)
      have H4 : Hid (∀ w', Below wr.heap.size wr w' → w'.cell? ⟨z, 4, none⟩ = some (.int .i64 ep)) := fun w' h => (HL.out.step h).c4
      have H5 : Hid (∀ w', Below wr.heap.size wr w' → w'.cell? ⟨z, 5, none⟩ = some (.slice (some ⟨b, o, none⟩) n c)) := fun w' h => (HL.out.step h).c5 HN.out
      obtain ⟨k1, hk1⟩ : ∃ k1, k1 = k + 1 := ⟨_, rfl⟩
      obtain ⟨f7, hf7⟩ : ∃ f7, f7 = f6 + 6 := ⟨_, rfl⟩
      have HE1 : Hid (IntKind.i64.wrap ((k : Int) * 6) = (f6 : Int)) := by show _ = _; rw [IntKind.wrap_i64]; omega
      have HE2 : Hid (IntKind.i64.wrap ((k : Int) + 1) = (k1 : Int)) := by show _ = _; rw [IntKind.wrap_i64]; omega
      have HE3 : Hid (IntKind.i64.wrap ((k1 : Int) * 6) = (f7 : Int)) := by show _ = _; rw [IntKind.wrap_i64]; omega
      have HE4 : Hid (min (f7 : Int) (n : Int) = (T : Int)) := by show _ = _; omega
      clear hk1 hf7 e1 e2a e2 c4 c5
      refine region_at (S := fun w' => Below wr.heap.size wr w') (by kernel_rfl) 26 rfl HB0.out ?_
      have HS := HB0
      refine at_take (i := 0) (v := .pointer (some ⟨z, 0, none⟩)) rfl rfl (by kernel_rfl) (by kernel_rfl) (by kernel_rfl) (fun c a d v w h => by cases d <;> exact h) rfl (by intro w hSw; go_simp) HS.out ?_
      simp only [List.set]
      refine at_take (i := 1) (v := .pointer (some ⟨z, 0, none⟩)) rfl rfl (by kernel_rfl) (by kernel_rfl) (by kernel_rfl) (fun c a d v w h => by cases d <;> exact h) rfl (by intro w hSw; go_simp) HS.out ?_
      simp only [List.set]
      refine at_take (i := 2) (v := .pointer (some ⟨z, 4, none⟩)) rfl rfl (by kernel_rfl) (by kernel_rfl) (by kernel_rfl) (fun c a d v w h => by cases d <;> exact h) rfl (by intro w hSw; go_simp) HS.out ?_
      simp only [List.set]
      refine at_take (i := 3) (v := .int .i64 ep) rfl rfl (by kernel_rfl) (by kernel_rfl) (by kernel_rfl) (fun c a d v w h => by cases d <;> exact h) rfl (by intro w hSw; have k4 := H4.out w hSw; go_simp) HS.out ?_
      simp only [List.set]
      refine at_take (i := 4) (v := .pointer (some ⟨z, 0, none⟩)) rfl rfl (by kernel_rfl) (by kernel_rfl) (by kernel_rfl) (fun c a d v w h => by cases d <;> exact h) rfl (by intro w hSw; go_simp) HS.out ?_
      simp only [List.set]
      refine at_take (i := 5) (v := .pointer (some ⟨z, 0, none⟩)) rfl rfl (by kernel_rfl) (by kernel_rfl) (by kernel_rfl) (fun c a d v w h => by cases d <;> exact h) rfl (by intro w hSw; go_simp) HS.out ?_
      simp only [List.set]
      refine at_take (i := 6) (v := .pointer (some ⟨z, 5, none⟩)) rfl rfl (by kernel_rfl) (by kernel_rfl) (by kernel_rfl) (fun c a d v w h => by cases d <;> exact h) rfl (by intro w hSw; go_simp) HS.out ?_
      simp only [List.set]
      refine at_take (i := 7) (v := .slice (some ⟨b, o, none⟩) n c) rfl rfl (by kernel_rfl) (by kernel_rfl) (by kernel_rfl) (fun c a d v w h => by cases d <;> exact h) rfl (by intro w hSw; have k5 := H5.out w hSw; go_simp) HS.out ?_
      simp only [List.set]
      refine at_take (i := 8) (v := .int .i64 k) rfl rfl (by kernel_rfl) (by kernel_rfl) (by kernel_rfl) (fun c a d v w h => by cases d <;> exact h) rfl (by intro w hSw; go_simp) HS.out ?_
      simp only [List.set]
      refine at_take (i := 9) (v := .int .i64 f6) rfl rfl (by kernel_rfl) (by kernel_rfl) (by kernel_rfl) (fun c a d v w h => by cases d <;> exact h) rfl (by intro w hSw; have e := HE1.out; go_simp) HS.out ?_
      simp only [List.set]
      refine at_take (i := 10) (v := .int .i64 k) rfl rfl (by kernel_rfl) (by kernel_rfl) (by kernel_rfl) (fun c a d v w h => by cases d <;> exact h) rfl (by intro w hSw; go_simp) HS.out ?_
      simp only [List.set]
      refine at_take (i := 11) (v := .int .i64 (k1 : Nat)) rfl rfl (by kernel_rfl) (by kernel_rfl) (by kernel_rfl) (fun c a d v w h => by cases d <;> exact h) rfl (by intro w hSw; have e := HE2.out; go_simp) HS.out ?_
      simp only [List.set]
      refine at_take (i := 12) (v := .int .i64 (f7 : Nat)) rfl rfl (by kernel_rfl) (by kernel_rfl) (by kernel_rfl) (fun c a d v w h => by cases d <;> exact h) rfl (by intro w hSw; have e := HE3.out; go_simp) HS.out ?_
      simp only [List.set]
      refine at_take (i := 13) (v := .pointer (some ⟨z, 0, none⟩)) rfl rfl (by kernel_rfl) (by kernel_rfl) (by kernel_rfl) (fun c a d v w h => by cases d <;> exact h) rfl (by intro w hSw; go_simp) HS.out ?_
      simp only [List.set]
      refine at_take (i := 14) (v := .pointer (some ⟨z, 0, none⟩)) rfl rfl (by kernel_rfl) (by kernel_rfl) (by kernel_rfl) (fun c a d v w h => by cases d <;> exact h) rfl (by intro w hSw; go_simp) HS.out ?_
      simp only [List.set]
      refine at_take (i := 15) (v := .pointer (some ⟨z, 5, none⟩)) rfl rfl (by kernel_rfl) (by kernel_rfl) (by kernel_rfl) (fun c a d v w h => by cases d <;> exact h) rfl (by intro w hSw; go_simp) HS.out ?_
      simp only [List.set]
      refine at_take (i := 16) (v := .slice (some ⟨b, o, none⟩) n c) rfl rfl (by kernel_rfl) (by kernel_rfl) (by kernel_rfl) (fun c a d v w h => by cases d <;> exact h) rfl (by intro w hSw; have k5 := H5.out w hSw; go_simp) HS.out ?_
      simp only [List.set]
      refine at_take (i := 17) (v := .int .i64 n) rfl rfl (by kernel_rfl) (by kernel_rfl) (by kernel_rfl) (fun c a d v w h => by cases d <;> exact h) rfl (by intro w hSw; go_simp) HS.out ?_
      simp only [List.set]
      refine at_take (i := 18) (v := .int .i64 T) rfl rfl (by kernel_rfl) (by kernel_rfl) (by kernel_rfl) (fun c a d v w h => by cases d <;> exact h) rfl (by intro w hSw; have e := HE4.out; go_simp) HS.out ?_
      simp only [List.set]
      refine at_take (i := 19) (v := .slice (some ⟨b, o + f6 * 10, none⟩) (T - f6) (c - f6)) rfl rfl (by kernel_rfl) (by kernel_rfl) (by kernel_rfl) (fun c a d v w h => by cases d <;> exact h) rfl (by intro w hSw; go_simp) HS.out ?_
      simp only [List.set]
      refine at_one (i := 20) (by kernel_rfl) ?_
      refine one_call (i := 20) rfl rfl rfl rfl enters68 ((rb_good (e := ep) (rs := chunk rs k) (by exact HROW.out.drew) HCL.out HOK.out).mono ?_)
      rintro e w1 ⟨xo, xc, rfl, hrow1, hbel⟩
      have hbel := of_drew hbel
      refine ⟨_, rfl, hbel, ?_⟩
      simp only [List.set]
      have HS := hide hbel
      have H1 := hide (HL.out.step hbel)
      have HD1 := hide (HD.out.step hbel)
      have HX := hide hrow1
      clear hrow1 hbel
      refine at_take (i := 21) (v := .tuple #[.slice xo 256 xc, .int .i64 0]) rfl rfl (by kernel_rfl) (by kernel_rfl) (by kernel_rfl) (fun c a d v w h => by cases d <;> exact h) rfl (by intro w hSw; go_simp) HS.out ?_
      simp only [List.set]
      refine at_take (i := 22) (v := .slice xo 256 xc) rfl rfl (by kernel_rfl) (by kernel_rfl) (by kernel_rfl) (fun c a d v w h => by cases d <;> exact h) rfl (by intro w hSw; go_simp) HS.out ?_
      simp only [List.set]
      refine at_take (i := 23) (v := .int .i64 0) rfl rfl (by kernel_rfl) (by kernel_rfl) (by kernel_rfl) (fun c a d v w h => by cases d <;> exact h) rfl (by intro w hSw; go_simp) HS.out ?_
      simp only [List.set]
      refine at_take (i := 24) (v := .slice xo 256 xc) rfl rfl (by kernel_rfl) (by kernel_rfl) (by kernel_rfl) (fun c a d v w h => by cases d <;> exact h) rfl (by intro w hSw; go_simp) HS.out ?_
      simp only [List.set]
      refine at_take (i := 25) (v := .int .i64 0) rfl rfl (by kernel_rfl) (by kernel_rfl) (by kernel_rfl) (fun c a d v w h => by cases d <;> exact h) rfl (by intro w hSw; go_simp) HS.out ?_
      simp only [List.set]
      refine at_done (by kernel_rfl) ?_
      have HB1 := HS
      clear HS H4 H5 HE1 HE2 HE3 HE4 HB0
      have c0 := H1.out.c0
      have c1 := H1.out.c1
      go_wp2_with fail
      refine region_at (S := fun w' => w'.cell? ⟨z, 0, none⟩ = some (.pointer (some ⟨y, 0, none⟩)) ∧ w'.cell? ⟨z, 1, none⟩ = some (.int .i64 F)) (by kernel_rfl) 13 rfl ⟨c0, c1⟩ ?_
      have HS : Hid (w1.drew.cell? ⟨z, 0, none⟩ = some (.pointer (some ⟨y, 0, none⟩)) ∧ w1.drew.cell? ⟨z, 1, none⟩ = some (.int .i64 F)) := ⟨c0, c1⟩
      refine at_take (i := 0) (v := .pointer (some ⟨z, 0, none⟩)) rfl rfl (by kernel_rfl) (by kernel_rfl) (by kernel_rfl) (fun c a d v w h => by cases d <;> exact h) rfl (by intro w hSw; go_simp) HS.out ?_
      simp only [List.set]
      refine at_take (i := 1) (v := .pointer (some ⟨z, 0, none⟩)) rfl rfl (by kernel_rfl) (by kernel_rfl) (by kernel_rfl) (fun c a d v w h => by cases d <;> exact h) rfl (by intro w hSw; go_simp) HS.out ?_
      simp only [List.set]
      refine at_take (i := 2) (v := .pointer (some ⟨z, 0, none⟩)) rfl rfl (by kernel_rfl) (by kernel_rfl) (by kernel_rfl) (fun c a d v w h => by cases d <;> exact h) rfl (by intro w hSw; go_simp) HS.out ?_
      simp only [List.set]
      refine at_take (i := 3) (v := .pointer (some ⟨y, 0, none⟩)) rfl rfl (by kernel_rfl) (by kernel_rfl) (by kernel_rfl) (fun c a d v w h => by cases d <;> exact h) rfl (by intro w hSw; (try dsimp only at hSw); obtain ⟨s1, s2⟩ := hSw; go_simp) HS.out ?_
      simp only [List.set]
      refine at_take (i := 4) (v := .pointer (some ⟨z, 0, none⟩)) rfl rfl (by kernel_rfl) (by kernel_rfl) (by kernel_rfl) (fun c a d v w h => by cases d <;> exact h) rfl (by intro w hSw; go_simp) HS.out ?_
      simp only [List.set]
      refine at_take (i := 5) (v := .pointer (some ⟨z, 0, none⟩)) rfl rfl (by kernel_rfl) (by kernel_rfl) (by kernel_rfl) (fun c a d v w h => by cases d <;> exact h) rfl (by intro w hSw; go_simp) HS.out ?_
      simp only [List.set]
      refine at_take (i := 6) (v := .pointer (some ⟨z, 1, none⟩)) rfl rfl (by kernel_rfl) (by kernel_rfl) (by kernel_rfl) (fun c a d v w h => by cases d <;> exact h) rfl (by intro w hSw; go_simp) HS.out ?_
      simp only [List.set]
      refine at_take (i := 7) (v := .int .i64 F) rfl rfl (by kernel_rfl) (by kernel_rfl) (by kernel_rfl) (fun c a d v w h => by cases d <;> exact h) rfl (by intro w hSw; (try dsimp only at hSw); obtain ⟨s1, s2⟩ := hSw; go_simp) HS.out ?_
      simp only [List.set]
      refine at_take (i := 8) (v := .int .i64 k) rfl rfl (by kernel_rfl) (by kernel_rfl) (by kernel_rfl) (fun c a d v w h => by cases d <;> exact h) rfl (by intro w hSw; go_simp) HS.out ?_
      simp only [List.set]
      refine at_take (i := 9) (v := .int .i64 sn) rfl rfl (by kernel_rfl) (by kernel_rfl) (by kernel_rfl) (fun c a d v w h => by cases d <;> exact h) rfl (by intro w hSw; have e := HFW.out; go_simp) HS.out ?_
      simp only [List.set]
      refine at_take (i := 10) (v := .slice xo 256 xc) rfl rfl (by kernel_rfl) (by kernel_rfl) (by kernel_rfl) (fun c a d v w h => by cases d <;> exact h) rfl (by intro w hSw; go_simp) HS.out ?_
      simp only [List.set]
      refine at_one (i := 11) (by kernel_rfl) ?_
      refine one_call (i := 11) rfl rfl rfl rfl enters32 ((rwrite_uni (HD1.out.step (below_drew (Below.refl _ _))) sn HFI.out HF.out (big_of HV3.out) xo xc (blockB ep (chunk rs k)) HX.out (length_blockB _ _ HCH.out)).mono ?_)
      rintro e w2 ⟨cd, rfl, ho2, hd1, hd2, hd3⟩
      have H2 := hide ((H1.out.step (below_drew (Below.refl _ _))).only ho2 hLy hLs)
      refine ⟨_, rfl, ⟨H2.out.c0, H2.out.c1⟩, ?_⟩
      simp only [List.set]
      have HS : Hid (w2.cell? ⟨z, 0, none⟩ = some (.pointer (some ⟨y, 0, none⟩)) ∧ w2.cell? ⟨z, 1, none⟩ = some (.int .i64 F)) := ⟨H2.out.c0, H2.out.c1⟩
      have HO2 : Hid (Only2 y s w w2) := (HO.out.trans (Only2.of_below HB1.out)).trans ((Only2.of_below (below_drew (Below.refl _ _))).trans ho2)
      have HPL : Hid (∀ g, plus (plus M w wr) w1.drew w2 g → plus M w w2 g) := plus_more HO.out.size HB1.out.size ho2.size
      have HD2 := hide hd1
      have HD3 := hide hd2
      have HD4 := hide hd3
      clear ho2 hd1 hd2 hd3 c0 c1
      refine at_take (i := 12) (v := .int .i64 cd) rfl rfl (by kernel_rfl) (by kernel_rfl) (by kernel_rfl) (fun c a d v w h => by cases d <;> exact h) rfl (by intro w hSw; go_simp) HS.out ?_
      simp only [List.set]
      refine at_done (by kernel_rfl) ?_
      clear HS
      by_cases ho : gone = true
      · obtain ⟨rfl, hd2⟩ := HD2.out ho
        obtain ⟨rfl, rfl, _⟩ := HOFF.out ho
        have HDD := hide (hd2.wide HPL.out)
        have HG1 := hide ho
        clear ho hd2 HD2 HD3 HD4
        go_wp2_with fail
        go_ret
        exact ⟨_, rfl, .inl ⟨HG1.out, rfl, H2.out, HDD.out⟩, .of2 HO2.out⟩
      · have ho' : gone = false := by simpa using ho
        have hwr := HON.out ho'
        have hm : 1 ≤ B - k := by have := HB.out; omega
        by_cases hf : f = 0
        · obtain ⟨rfl, hd2⟩ := HD4.out ho' hf
          rw [hf] at hwr
          have HGG := hide (wrUp_burn hwr hm)
          have hsn := HSN.out
          have HDD : Hid (RD w2 (plus M w w2) y s cap (addS vs (F + k) (blockB ep (chunk rs k))) 0 true) := by
            show RD _ _ _ _ _ _ _ _
            rw [← hsn]
            exact hd2.wide HPL.out
          have HG1 := hide ho'
          clear ho ho' hd2 HD2 HD3 HD4 hwr hm hsn
          go_wp2_with fail
          go_ret
          exact ⟨_, rfl, .inr (.inl ⟨HG1.out, by rw [HGG.out], rfl, H2.out, by rw [HGG.out]; exact HDD.out⟩), .of2 HO2.out⟩
        · obtain ⟨rfl, hd2⟩ := HD3.out ho' hf
          have HST := hide (wrUp_step hwr hm hf)
          have hsn := HSN.out
          have HDD : Hid (RD w2 (plus M w w2) y s cap (addS vs (F + k) (blockB ep (chunk rs k))) (burnt f) false) := by
            show RD _ _ _ _ _ _ _ _
            rw [← hsn]
            exact hd2.wide HPL.out
          have HG1 := hide ho'
          clear ho ho' hd2 HD2 HD3 HD4 hwr hm hsn hf
          go_wp2_with fail
          go_roundw
          case rel => exact ⟨k + 1, _, _, by go_num, by have := HB.out; omega, (length_addS _ _ _).trans HLEN.out, burnt_bd HF.out, fun h => absurd (HG1.out.symm.trans h) (by simp), fun _ => by rw [show B - (k + 1) = B - k - 1 by omega]; exact HST.out, addS_far HV2.out, addS_all HV2.out HV3.out, H2.out, by rw [HG1.out]; exact HDD.out, HO2.out⟩
          case measure => have := HB.out; simp [intOf]; omega
    · have hki : decide ((k : Int) * 6 < (n : Int)) = false := by simp; omega
      have hkB' : k = B := by have := HB.out; omega
      have ho : gone = false := by
        cases hoo : gone with
        | false => rfl
        | true => have := (HOFF.out hoo).2.2; omega
      have hwr := HON.out ho
      rw [hkB', Nat.sub_self] at hwr
      have hGG : G = (vs, f, true) := hwr.symm
      have HGG := hide hGG
      have HG1 := hide ho
      have HD2 : Hid (RD wr (plus M w wr) y s cap vs f false) := by show RD _ _ _ _ _ _ _ _; rw [← ho]; exact HD.out
      have c0 := HL.out.c0
      clear hkB' ho hwr hGG HD
      by_cases hf : f = 0
      · subst hf
        go_wp2_with fail
        refine (rsync_burn HD2.out).mono ?_
        rintro e w1 ⟨rfl, hd, ho⟩
        have H1 := hide (HL.out.only ho hLy hLs)
        have HO1 := hide (HO.out.trans ho)
        have HDD : Hid (RD w1 (plus M w w1) y s cap vs 0 true) := hd.wide fun g hg => hg.imp id fun h => ⟨h.1, Nat.lt_of_lt_of_le h.2 ho.size⟩
        clear hd ho c0 c5
        go_wp2_with fail
        go_ret
        exact ⟨_, rfl, .inr (.inr (.inl ⟨HG1.out, by rw [HGG.out], by rw [HGG.out], rfl, H1.out, by rw [HGG.out]; exact HDD.out⟩)), .of2 HO1.out⟩
      · go_wp2_with fail
        refine (rsync_ok HD2.out HF.out.1 HF.out.2 hf (big_of HV3.out)).mono ?_
        rintro e w1 ⟨rfl, hd, ho⟩
        have H1 := hide (HL.out.only ho hLy hLs)
        have HO1 := hide (HO.out.trans ho)
        have HDD : Hid (RD w1 (plus M w w1) y s cap (vs.map synced) (burnt f) false) := hd.wide fun g hg => hg.imp id fun h => ⟨h.1, Nat.lt_of_lt_of_le h.2 ho.size⟩
        have f6 := H1.out.fz 6
        have c6 := H1.out.c6
        have HNF := hide hf
        clear hd ho c0 c5 hf
        go_wp2_with fail
        refine (rlast_cells z base (some ⟨b, o, none⟩) n c w1 H1.out.c3 (H1.out.c5 HN.out) (by have := HNB.out; omega) (by omega)).mono ?_
        rintro e w3 ⟨rfl, q, rfl⟩
        have HM := hide (rfl_mark H1.out HDD.out HO1.out hMz HZ.out n HN.out q)
        go_wp2_with fail
        go_ret
        exact ⟨_, rfl, .inr (.inr (.inr ⟨HG1.out, by rw [HGG.out], by rw [HGG.out]; exact HNF.out, rfl, HM.out.1, by rw [HGG.out]; exact HM.out.2.1⟩)), HM.out.2.2⟩
/-- Flush: what flushW says. -/
theorem rflush_many (hl : RL w L z y F N base ep ao c rs D) (hd : RD w M y s cap vss left gone) (hLy : ¬ L y) (hLs : ¬ L s) (hMz : ¬ M z) (hb : 0 ≤ base ∧ base + rs.length ≤ 1073741824) (hep : 1 ≤ ep ∧ ep ≤ 1073741824) (hFN : F + N ≤ vss.length) (h6 : rs.length ≤ 6 * N) (hDl : D ≤ rs.length) (hN : N ≤ 100) (hgood : ∀ r ∈ rs, goodB r = true) (hleft : -1 ≤ left ∧ left ≤ 9223372036854775807) (hv : verBd vss 1000) :
    Calls Tryz.prog 17 #[.pointer (some ⟨z, 0, none⟩)] w fun e w' => e = .returned (.int .i64 (if (flushW F ep rs D vss gone left).2.2.2 then 0 else 101)) ∧ RL w' L z y F N base ep ao c rs (flD (flushW F ep rs D vss gone left).2.2.2 rs.length D) ∧ RD w' (plus M w w') y s cap (flushW F ep rs D vss gone left).1 (flushW F ep rs D vss gone left).2.1 (flushW F ep rs D vss gone left).2.2.1 ∧ Only3 z y s w w' := by
  by_cases hD : D = rs.length
  · refine (rflush_same hl hb (by omega) hD).mono ?_
    rintro e w' ⟨rfl, m, rfl⟩
    have e1 : flushW F ep rs D vss gone left = (vss, left, gone, true) := by unfold flushW; rw [if_pos hD]
    rw [e1]
    refine ⟨rfl, ?_, (hd.drewN m).wide fun g hg => .inl hg, .of2 (.of_below (below_drewN (Below.refl _ _) m))⟩
    show RL _ L z y F N base ep ao c rs rs.length
    rw [← hD]
    exact hl.drewN m
  · refine (rflush_go hl hd hLy hLs hMz hb hep hFN h6 hDl hN hgood hleft hD hv).mono ?_
    rintro e w' ⟨cd, rfl, hp, hk⟩
    generalize hG : wrUp F ep rs (blocksOf rs.length - D / 6) (D / 6) vss left = G at hp
    rcases hp with ⟨rfl, rfl, h1, h4⟩ | ⟨rfl, h2, rfl, h1, h4⟩ | ⟨rfl, h2, h3, rfl, h1, h4⟩ | ⟨rfl, h2, h3, rfl, h1, h4⟩
    · have e1 : flushW F ep rs D vss true left = (vss, left, true, false) := by unfold flushW; rw [if_neg hD, if_pos rfl]
      rw [e1]
      exact ⟨rfl, h1, h4, hk⟩
    · have e1 : flushW F ep rs D vss false left = (G.1, G.2.1, true, false) := by unfold flushW; rw [if_neg hD, if_neg (by simp), hG, if_neg (by rw [h2]; simp)]
      rw [e1]
      exact ⟨rfl, h1, h4, hk⟩
    · have e1 : flushW F ep rs D vss false left = (G.1, 0, true, false) := by unfold flushW; rw [if_neg hD, if_neg (by simp), hG, if_pos h2, if_pos h3]
      rw [e1]
      exact ⟨rfl, h1, h4, hk⟩
    · have e1 : flushW F ep rs D vss false left = (G.1.map synced, burnt G.2.1, false, true) := by unfold flushW; rw [if_neg hD, if_neg (by simp), hG, if_pos h2, if_neg h3]
      rw [e1]
      exact ⟨rfl, h1, h4, hk⟩
theorem rflush_any (hl : RL w L z y F N base ep ao c rs D) (hd : RD w M y s cap vss left gone) (hLy : ¬ L y) (hLs : ¬ L s) (hMz : ¬ M z) (hb : 0 ≤ base ∧ base + rs.length ≤ 1073741824) (hep : 1 ≤ ep ∧ ep ≤ 1073741824) (hFN : F + N ≤ vss.length) (h6 : rs.length ≤ 6 * N) (hDl : D ≤ rs.length) (hN : N ≤ 100) (hgood : ∀ r ∈ rs, goodB r = true) (hleft : -1 ≤ left ∧ left ≤ 9223372036854775807) (hv : verBd vss 2) :
    Calls Tryz.prog 17 #[.pointer (some ⟨z, 0, none⟩)] w fun e w' => e = .returned (.int .i64 (if (flushW F ep rs D vss gone left).2.2.2 then 0 else 101)) ∧ RL w' L z y F N base ep ao c rs (flD (flushW F ep rs D vss gone left).2.2.2 rs.length D) ∧ RD w' (plus M w w') y s cap (flushW F ep rs D vss gone left).1 (flushW F ep rs D vss gone left).2.1 (flushW F ep rs D vss gone left).2.2.1 ∧ Only3 z y s w w' := rflush_many hl hd hLy hLs hMz hb hep hFN h6 hDl hN hgood hleft (hv.mono (by omega))
end
end Go.Proofs.YtjacenhblclkaaaGreatDoor
