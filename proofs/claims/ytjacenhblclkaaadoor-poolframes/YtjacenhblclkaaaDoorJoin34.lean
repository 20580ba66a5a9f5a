/- Lemmas and contracts that the law stands on, joined: WalWrite, WalFlush. -/
import Derived.Test.YtjacenhblclkaaaDoorJoin33
import Derived.Test.YtjacenhblclkaaaDoorJoin30
/- What a log's writeBlock does. -/
namespace Go.Proofs.YtjacenhblclkaaaDoor
open Go.RowKit
set_option linter.unusedVariables false

/-- Some records of a list, from a place on. -/
theorem RecRow.cutAt {w : World} {b o : Nat} {rs : List R} (h : ∀ i r, rs[i]? = some r → CellsFrom w b (o + i * 10) r) (hl : rs.length ≤ 1000) (k m : Nat) : RecRow w (some ⟨b, o + k * 10, none⟩) ((rs.drop k).take m) := by
  refine ⟨by simp; omega, fun _ => ⟨b, o + k * 10, rfl, fun i r hi => ?_⟩⟩
  have h1 : rs[k + i]? = some r := by
    rw [List.getElem?_take] at hi
    split at hi
    · rwa [List.getElem?_drop] at hi
    · cases hi
  have h2 := h (k + i) r h1
  rwa [show o + (k + i) * 10 = o + k * 10 + i * 10 by omega] at h2
theorem RecRow.drew {w : World} {ao : Option Addr} {rs : List R} (h : RecRow w ao rs) : RecRow w.drew ao rs := h.step (below_drew (Below.refl _ _))
theorem OwnR.le {w : World} {B : Nat} {ao : Option Addr} {cap : Nat} {rs : List R} (h : OwnR w B ao cap rs) : rs.length ≤ cap := by
  rcases h.1.2 with ⟨h1, h2⟩ | ⟨g, c, cur, h1, h2, h3, h4⟩
  · omega
  · simp only [Value.slice.injEq] at h1
    obtain ⟨_, _, rfl⟩ := h1
    exact h4.1
/-- Write's three answers in one: power, and the fuse, decide. -/
theorem dwrite_uni (d k : Nat) (bo : Option Addr) (bc : Nat) (ys : List Int) {w : World} {K : Nat → Prop} {a : Nat → Addr} {vss : List (List (List Int))} {off : Bool} {fuse : Int} (h : Disk w K a d vss off fuse) (hk : k < vss.length) (hr : Row w bo ys) (hl : ys.length = 256) (hlen : (vss.getD k []).length + 1 ≤ 4294967296) :
    Calls Tryd.prog 25 #[.pointer (some ⟨d, 0, none⟩), .int .i64 k, .slice bo 256 bc] w fun e w' => ∃ fv, e = .returned fv ∧ Kept K w w' ∧ (off = false → fuse ≠ 0 → fv = .nilIface ∧ Disk w' K a d (addS vss k ys) false (burnt fuse)) ∧
      (off = false → fuse = 0 → fv = errV (a 0) ∧ Disk w' K a d (addS vss k ys) true 0) ∧ (off = true → fv = errV (a 0) ∧ Disk w' K a d vss true fuse) := by
  cases off with
  | true => exact (write_off d k _ h).mono fun e w' hh => ⟨_, hh.1, by rw [hh.2]; exact Kept.refl _ _, fun h1 => Bool.noConfusion h1, fun h1 => Bool.noConfusion h1, fun _ => ⟨rfl, by rw [hh.2]; exact h⟩⟩
  | false =>
    by_cases hf : fuse = 0
    · subst hf
      exact (write_burn d k bo bc ys h hk hr hl hlen).mono fun e w' hh => ⟨_, hh.1, hh.2.2, fun _ h2 => absurd rfl h2, fun _ _ => ⟨rfl, hh.2.1⟩, fun h1 => Bool.noConfusion h1⟩
    · exact (write_ok d k bo bc ys h hk hr hl hlen hf).mono fun e w' hh => ⟨_, hh.1, hh.2.2, fun _ _ => ⟨rfl, hh.2.1⟩, fun _ h2 => absurd h2 hf, fun h1 => Bool.noConfusion h1⟩
section
variable {w w' : World} {K L : Nat → Prop} {a : Nat → Addr} {l d : Nat} {vss : List (List (List Int))} {off : Bool} {fuse : Int} {F N : Nat} {base ep : Int} {ao : Option Addr} {c : Nat} {rs : List R} {D : Nat}
set_option maxRecDepth 100000 in
set_option maxHeartbeats 2000000 in
theorem wwrite_any (h : LogOf w K a l d vss off fuse F N base ep ao c rs D) (i n : Nat) (hn : rs.length = n) (hi : 6 * i < n) (hv : (vss.getD (F + i) []).length ≤ 1000) :
    Calls Tryd.prog 82 #[.pointer (some ⟨l, 0, none⟩), .int .i64 i] w fun e w' => Kept K w w' ∧ (off = false → fuse ≠ 0 → e = .returned .nilIface ∧ LogOf w' K a l d (addS vss (F + i) (blockB ep (chunk rs i))) false (burnt fuse) F N base ep ao c rs D) ∧
      (off = false → fuse = 0 → e = .returned (errV (a 0)) ∧ LogOf w' K a l d (addS vss (F + i) (blockB ep (chunk rs i))) true 0 F N base ep ao c rs D) ∧ (off = true → e = .returned (errV (a 0)) ∧ LogOf w' K a l d vss true fuse F N base ep ao c rs D) := by
  have hbd := h.bd
  have hsm := h.small
  obtain ⟨b, o, rfl, hc⟩ := h.own.row.2 (by omega)
  have hcap : n ≤ c := by rw [← hn]; exact h.own.le
  obtain ⟨f6, hf6⟩ : ∃ f6, f6 = 6 * i := ⟨_, rfl⟩
  obtain ⟨T, hT⟩ : ∃ T, T = min (6 * i + 6) n := ⟨_, rfl⟩
  have e1 : (i : Int) * 6 = (f6 : Int) := by omega
  have e2 : min ((f6 : Int) + 6) (n : Int) = (T : Int) := by omega
  have e3 : f6 < T := by omega
  have e4 : T ≤ n := by omega
  have e5 : ¬ c = f6 := by omega
  have e6 : n ≤ 1000 := by omega
  have e7 : (f6 : Int) ≤ (T : Int) := by omega
  have e8 : (T : Int) ≤ (c : Int) := by omega
  have e9 : f6 ≤ T := by omega
  have e10 : T ≤ c := by omega
  have c0 := h.c0
  have c1 := h.c1
  have c4 := h.c4
  have c5 := h.c5 hn
  have HH := hide h
  have hck : chunk rs i = (rs.drop f6).take (T - f6) := by
    unfold chunk
    rw [← hf6]
    by_cases h6 : 6 * i + 6 ≤ n
    · rw [show T - f6 = 6 by omega]
    · rw [List.take_of_length_le (by rw [List.length_drop]; omega), List.take_of_length_le (by rw [List.length_drop]; omega)]
  have hcl : (chunk rs i).length = T - f6 := by rw [length_chunk]; omega
  have hrow : RecRow w (some ⟨b, o + f6 * 10, none⟩) (chunk rs i) := by rw [hck]; exact RecRow.cutAt hc (by omega) f6 (T - f6)
  have hok : okB ep (chunk rs i) = true := (okB_iff _ _).2 ⟨⟨hbd.2.1.1, hbd.2.1.2, by omega, by omega⟩, fun r hr => (h.good r (mem_chunk (q := 6) (by rw [chunk_self]; exact hr))).1⟩
  have hfi : F + i < vss.length := by omega
  have HROW := hide hrow
  have HCL := hide hcl
  have HOK := hide hok
  have HCH : Hid ((chunk rs i).length ≤ 6) := by show (chunk rs i).length ≤ 6; omega
  have HFI := hide hfi
  have HV := hide hv
  obtain ⟨sn, hsn⟩ : ∃ sn, sn = F + i := ⟨_, rfl⟩
  have hFi : (F : Int) + (i : Int) = (sn : Int) := by omega
  have hFw : IntKind.i64.wrap ((F : Int) + (i : Int)) = (sn : Int) := by rw [IntKind.wrap_i64]; omega
  have hSw : IntKind.i64.wrap (sn : Int) = (sn : Int) := by rw [IntKind.wrap_i64]; omega
  have HSN := hide hsn
  clear hsn h hn hf6 hT hc hck hcl hrow hok hfi hv hbd hsm
  go_enter Tryd.func82, Tryd.ntmps82
  go_wp2_with fail
  go_region_held3 (fun w' => w'.cell? ⟨l, 4, none⟩ = some (.int .i64 ep) ∧ w'.cell? ⟨l, 5, none⟩ = some (.slice (some ⟨b, o, none⟩) n c)) (first | go_keep | (refine ⟨?_, ?_⟩ <;> assumption))
    (first
      | (go_at_call 101; refine (bb_ok (x := a 1) (rs := chunk rs i) (by exact HH.out.errs.rng) (by exact HROW.out.drew) HCL.out HOK.out).mono ?_; rintro e w1 ⟨g, rfl, hg, hown, hbel⟩; have hbel := of_drew hbel; have H1 := hide (HH.out.below hbel); have HK1 := hide (Kept.of_below hbel HH.out.disk.low); have c4' := H1.out.c4; have c5' := (hbel.cell (p := ⟨l, 5, none⟩) (World.block_lt_of_cell? w _ c5)).trans c5; have HO := hide hown; clear hown hbel hg))
  clear c0 c1 c4 c5 c4' c5'
  have c0 := H1.out.c0
  have c1 := H1.out.c1
  go_wp2_with fail
  go_region_held3 (fun w' => w'.cell? ⟨l, 0, none⟩ = some (.pointer (some ⟨d, 0, none⟩)) ∧ w'.cell? ⟨l, 1, none⟩ = some (.int .i64 F)) (first | go_keep | (refine ⟨?_, ?_⟩ <;> assumption))
    (first
      | (go_at_call 25; refine (dwrite_uni d sn (some ⟨g, 0, none⟩) 256 (blockB ep (chunk rs i)) (by exact H1.out.disk.drew) (by rw [HSN.out]; exact HFI.out) (by exact HO.out.row) (length_blockB _ _ HCH.out) (by rw [HSN.out]; have := HV.out; omega)).mono ?_; rintro e w2 ⟨fv, rfl, hk2, hd1, hd2, hd3⟩; have hk2 := hk2.of_drew; have c0' := (hk2.cell (p := ⟨l, 0, none⟩) (.inr (.inl rfl))).trans c0; have c1' := (hk2.cell (p := ⟨l, 1, none⟩) (.inr (.inl rfl))).trans c1; have HK2 := hide hk2; have HD1 := hide hd1; have HD2 := hide hd2; have HD3 := hide hd3; clear hk2 hd1 hd2 hd3))
  clear c0 c1 c0' c1'
  go_wp2_with fail
  go_ret
  have hkk : Kept K w w2 := (HK1.out.trans HK2.out).mono fun k hk => .inl hk
  have hs := HSN.out
  subst hs
  refine ⟨hkk, fun h1 h2 => ?_, fun h1 h2 => ?_, fun h1 => ?_⟩
  · obtain ⟨rfl, h3⟩ := HD1.out h1 h2
    exact ⟨rfl, H1.out.turn h3 HK2.out (length_addS _ _ _)⟩
  · obtain ⟨rfl, h3⟩ := HD2.out h1 h2
    exact ⟨rfl, H1.out.turn h3 HK2.out (length_addS _ _ _)⟩
  · obtain ⟨rfl, h3⟩ := HD3.out h1
    exact ⟨rfl, H1.out.turn h3 HK2.out rfl⟩
end
end Go.Proofs.YtjacenhblclkaaaDoor

/- What a log's Flush answers, with power and without, whatever the fuse. -/
namespace Go.Proofs.YtjacenhblclkaaaDoor
open Go.RowKit
set_option linter.unusedVariables false

/-- What is answered where it went well, and where power was gone. -/
def flE (x : Addr) (b : Bool) : Value := if b then .nilIface else errV x
/-- How many are flushed behind it. -/
def flD (b : Bool) (n D : Nat) : Nat := if b then n else D
section
variable {w w' : World} {K L : Nat → Prop} {a : Nat → Addr} {l d : Nat} {vss : List (List (List Int))} {off : Bool} {fuse : Int} {F N : Nat} {base ep : Int} {ao : Option Addr} {c : Nat} {rs : List R} {D : Nat}
set_option maxRecDepth 100000 in
set_option maxHeartbeats 1000000 in
theorem wflush_same (h : LogOf w K a l d vss off fuse F N base ep ao c rs D) (hD : D = rs.length) : Calls Tryd.prog 56 #[.pointer (some ⟨l, 0, none⟩)] w fun e w' => e = .returned .nilIface ∧ ∃ m, w' = w.drewN m := by
  obtain ⟨n, hn⟩ : ∃ n, n = rs.length := ⟨_, rfl⟩
  have c5 := h.c5 hn.symm
  have c6 := h.c6
  rw [hD, ← hn] at c6
  have hs := h.small
  have hb := h.bd
  have hnb : n ≤ 1000 := by omega
  clear h hn hD hs hb
  go_enter Tryd.func56, Tryd.ntmps56
  go_wp2_with fail
  go_quiet (fail)
  go_wp2_with fail
  go_ret
  exact ⟨rfl, _, rfl⟩
/-- What became of it: power was off; the fuse went with a block; it went with the Sync; all went well. -/
def flPost (w : World) (K : Nat → Prop) (a : Nat → Addr) (l d : Nat) (vss : List (List (List Int))) (off : Bool) (fuse : Int) (F N : Nat) (base ep : Int) (ao : Option Addr) (c : Nat) (rs : List R) (D : Nat) (G : List (List (List Int)) × Int × Bool) (fv : Value) (w' : World) : Prop :=
  (off = true ∧ fv = errV (a 0) ∧ LogOf w' K a l d vss true fuse F N base ep ao c rs D) ∨ (off = false ∧ G.2.2 = false ∧ fv = errV (a 0) ∧ LogOf w' K a l d G.1 true G.2.1 F N base ep ao c rs D) ∨
  (off = false ∧ G.2.2 = true ∧ G.2.1 = 0 ∧ fv = errV (a 0) ∧ LogOf w' K a l d G.1 true 0 F N base ep ao c rs D) ∨ (off = false ∧ G.2.2 = true ∧ G.2.1 ≠ 0 ∧ fv = .nilIface ∧ LogOf w' K a l d (G.1.map synced) false (burnt G.2.1) F N base ep ao c rs rs.length)
theorem wrUp_step {first : Nat} {ep : Int} {rs : List R} {m k : Nat} {vs : List (List (List Int))} {f : Int} {G : List (List (List Int)) × Int × Bool} (h : wrUp first ep rs m k vs f = G) (hm : 1 ≤ m) (hf : f ≠ 0) : wrUp first ep rs (m - 1) (k + 1) (addS vs (first + k) (blockB ep (chunk rs k))) (burnt f) = G := by
  obtain ⟨q, rfl⟩ : ∃ q, m = q + 1 := ⟨m - 1, by omega⟩
  rw [wrUp, if_neg hf] at h
  exact h
theorem wrUp_burn {first : Nat} {ep : Int} {rs : List R} {m k : Nat} {vs : List (List (List Int))} {G : List (List (List Int)) × Int × Bool} (h : wrUp first ep rs m k vs 0 = G) (hm : 1 ≤ m) : G = (addS vs (first + k) (blockB ep (chunk rs k)), 0, false) := by
  obtain ⟨q, rfl⟩ : ∃ q, m = q + 1 := ⟨m - 1, by omega⟩
  rw [wrUp, if_pos rfl] at h
  exact h.symm
theorem addS_far {vs : List (List (List Int))} {k : Nat} {F : Nat} {b : List Int} (h : ∀ j, F + k ≤ j → (vs.getD j []).length ≤ 1000) : ∀ j, F + (k + 1) ≤ j → ((addS vs (F + k) b).getD j []).length ≤ 1000 := by
  intro j hj
  refine Nat.le_trans (addS_len _ _ _ _) ?_
  rw [if_neg (by omega)]
  exact h j (by omega)
set_option maxRecDepth 100000 in
set_option maxHeartbeats 4000000 in
theorem wflush_go (h : LogOf w K a l d vss off fuse F N base ep ao c rs D) (hD : D ≠ rs.length) (hv : verBd vss 1000) : Calls Tryd.prog 56 #[.pointer (some ⟨l, 0, none⟩)] w fun e w' => ∃ fv, e = .returned fv ∧ flPost w K a l d vss off fuse F N base ep ao c rs D (wrUp F ep rs (blocksOf rs.length - D / 6) (D / 6) vss fuse) fv w' ∧ Kept K w w' := by
  obtain ⟨n, hn⟩ : ∃ n, n = rs.length := ⟨_, rfl⟩
  have c5 := h.c5 hn.symm
  have c6 := h.c6
  have hs := h.small
  have hb := h.bd
  have hnb : n ≤ 1000 := by omega
  have hdb : D ≤ 1000 := by omega
  have hne : ((D : Int) == (n : Int)) = false := by simp; omega
  obtain ⟨k0, hk⟩ : ∃ k0, k0 = D / 6 := ⟨_, rfl⟩
  have hq : (D : Int) / 6 = (k0 : Int) := by omega
  have hkb : k0 ≤ 1000 := by omega
  have hk6 : 6 * k0 < n := by omega
  rw [← hk]
  obtain ⟨G, hG⟩ : ∃ G, wrUp F ep rs (blocksOf rs.length - k0) k0 vss fuse = G := ⟨_, rfl⟩
  rw [hG]
  obtain ⟨B, hB⟩ : ∃ B, B = blocksOf rs.length := ⟨_, rfl⟩
  have hB1 := (blocks_bd rs.length).1
  have hB2 := (blocks_bd rs.length).2
  rw [← hB] at hG hB1 hB2
  rw [← hn] at hB1 hB2
  have HB : Hid (6 * B < n + 6 ∧ n ≤ 6 * B) := ⟨hB1, hB2⟩
  have HH := hide h
  have HN : Hid (rs.length = n) := hn.symm
  have HV := hide hv
  have HG := hide hG
  clear h hn hD hs hb hv hk hG hB hB1 hB2
  go_enter Tryd.func56, Tryd.ntmps56
  go_wp2_with fail
  go_quiet (fail)
  go_wp2_with fail
  go_loopw [3] (fun i wr => ∃ (k : Nat) (vs : List (List (List Int))) (f : Int), i = .int .i64 k ∧ k ≤ B ∧ (off = true → k = k0 ∧ vs = vss ∧ f = fuse) ∧ (off = false → wrUp F ep rs (B - k) k vs f = G) ∧ (∀ j, F + k ≤ j → (vs.getD j []).length ≤ 1000) ∧ LogOf wr K a l d vs off f F N base ep ao c rs D ∧ Kept K w wr) (fun i _ => B - (intOf i).toNat)
  case atStart => exact ⟨k0, vss, fuse, rfl, by have := HB.out; omega, fun _ => ⟨rfl, rfl, rfl⟩, fun _ => HG.out, fun j _ => HV.out j, HH.out.drewN _, (Kept.refl K w).drewN _⟩
  case round =>
    clear HH HV c5 c6
    obtain ⟨k, vs, f, rfl, hkB, hoff, hon, hvs, hlog, hkept⟩ := hrel
    have HL := hide hlog
    have HK := hide hkept
    have HOFF := hide hoff
    have HON := hide hon
    have HVS := hide hvs
    have c5 := HL.out.c5 HN.out
    have hkk : k ≤ 1000 := by have := HB.out; omega
    clear hlog hkept hoff hon hvs
    by_cases hlt : 6 * k < n
    · have hki : (k : Int) * 6 < (n : Int) := by omega
      go_wp2_with fail
      refine (wwrite_any HL.out k n HN.out hlt (HVS.out (F + k) (Nat.le_refl _))).mono ?_
      rintro e w1 ⟨hk1, h1, h2, h3⟩
      have HK1 := hide (HK.out.trans hk1)
      have HBB := HB.out
      have hm : 1 ≤ B - k := by omega
      by_cases ho : off = true
      · obtain ⟨rfl, h4⟩ := h3 ho
        obtain ⟨_, rfl, rfl⟩ := HOFF.out ho
        have H4 := hide h4
        have HO := hide ho
        clear h1 h2 h3 h4 hk1 ho HBB
        unfold errV
        go_wp2_with fail
        go_ret
        exact ⟨_, rfl, .inl ⟨HO.out, rfl, H4.out⟩, HK1.out⟩
      · have ho' : off = false := by simpa using ho
        have hwr := HON.out ho'
        by_cases hf : f = 0
        · obtain ⟨rfl, h4⟩ := h2 ho' hf
          rw [hf] at hwr
          have hGG := wrUp_burn hwr hm
          have H4 := hide h4
          have HO := hide ho'
          have HGG := hide hGG
          clear h1 h2 h3 h4 hk1 ho ho' HBB hwr hGG
          unfold errV
          go_wp2_with fail
          go_ret
          exact ⟨_, rfl, .inr (.inl ⟨HO.out, by rw [HGG.out], rfl, by rw [HGG.out]; exact H4.out⟩), HK1.out⟩
        · obtain ⟨rfl, h4⟩ := h1 ho' hf
          have hst := wrUp_step hwr hm hf
          have H4 := hide h4
          have HO := hide ho'
          have HST := hide hst
          clear h1 h2 h3 h4 hk1 ho ho' HBB hwr hst
          go_wp2_with fail
          go_roundw
          case rel => exact ⟨k + 1, _, _, by go_num, by have := HB.out; omega, fun h => absurd (HO.out.symm.trans h) (by simp), fun _ => by rw [show B - (k + 1) = B - k - 1 by omega]; exact HST.out, addS_far HVS.out, by rw [HO.out]; exact H4.out, HK1.out⟩
          case measure => simp [intOf]; omega
    · have hki : decide ((k : Int) * 6 < (n : Int)) = false := by simp; omega
      have hkB' : k = B := by have := HB.out; omega
      have ho : off = false := by
        cases hoo : off with
        | false => rfl
        | true => have := (HOFF.out hoo).1; omega
      have hwr := HON.out ho
      rw [hkB', Nat.sub_self] at hwr
      have hGG : G = (vs, f, true) := hwr.symm
      have HGG := hide hGG
      have HO := hide ho
      have HL2 : Hid (LogOf wr K a l d vs false f F N base ep ao c rs D) := by show LogOf wr K a l d vs false f F N base ep ao c rs D; rw [← ho]; exact HL.out
      have c0 := HL.out.c0
      clear hkB' ho hwr hGG HL
      by_cases hf : f = 0
      · subst hf
        go_wp2_with fail
        refine (sync_burn d HL2.out.disk).mono ?_
        rintro e w1 ⟨rfl, hd, hk1⟩
        have HL3 := hide (HL2.out.turn hd hk1 rfl)
        have HK1 := hide (HK.out.trans (hk1.mono fun k hk => .inl hk))
        clear hd hk1 c0 c5
        unfold errV
        go_wp2_with fail
        go_ret
        exact ⟨_, rfl, .inr (.inr (.inl ⟨HO.out, by rw [HGG.out], by rw [HGG.out], rfl, by rw [HGG.out]; exact HL3.out⟩)), HK1.out⟩
      · go_wp2_with fail
        refine (sync_ok d HL2.out.disk hf).mono ?_
        rintro e w1 ⟨rfl, hd, hk1⟩
        have HL3 := hide (HL2.out.turn hd hk1 (List.length_map _))
        have HK1 := hide (HK.out.trans (hk1.mono fun k hk => .inl hk))
        have c5' := HL3.out.c5 HN.out
        have c6' := HL3.out.c6
        have f6' := HL3.out.fz 6
        have HSD := hide (HL3.out.setDone n (by rw [HN.out]; exact Nat.le_refl _))
        clear hd hk1 c0 c5
        go_wp2_with fail
        go_ret
        exact ⟨_, rfl, .inr (.inr (.inr ⟨HO.out, by rw [HGG.out], by rw [HGG.out]; exact hf, rfl, by rw [HGG.out, HN.out]; exact HSD.out.1⟩)), HK1.out.trans HSD.out.2⟩
/-- Flush: what flushW says. -/
theorem wflush_many (h : Log w K a l d vss off fuse F N base ep rs D) (hv : verBd vss 1000) : Calls Tryd.prog 56 #[.pointer (some ⟨l, 0, none⟩)] w fun e w' =>
    e = .returned (flE (a 0) (flushW F ep rs D vss off fuse).2.2.2) ∧ Log w' K a l d (flushW F ep rs D vss off fuse).1 (flushW F ep rs D vss off fuse).2.2.1 (flushW F ep rs D vss off fuse).2.1 F N base ep rs (flD (flushW F ep rs D vss off fuse).2.2.2 rs.length D) ∧ Kept K w w' := by
  obtain ⟨ao, c, h⟩ := h
  by_cases hD : D = rs.length
  · refine (wflush_same h hD).mono ?_
    rintro e w' ⟨rfl, m, rfl⟩
    have e1 : flushW F ep rs D vss off fuse = (vss, fuse, off, true) := by unfold flushW; rw [if_pos hD]
    rw [e1]
    refine ⟨rfl, ⟨ao, c, ?_⟩, (Kept.refl K w).drewN m⟩
    show LogOf _ K a l d vss off fuse F N base ep ao c rs rs.length
    rw [← hD]
    exact h.drewN m
  · refine (wflush_go h hD hv).mono ?_
    rintro e w' ⟨fv, rfl, hp, hk⟩
    unfold flushW
    rw [if_neg hD]
    generalize wrUp F ep rs (blocksOf rs.length - D / 6) (D / 6) vss fuse = G at hp ⊢
    rcases hp with ⟨rfl, rfl, h1⟩ | ⟨rfl, h2, rfl, h1⟩ | ⟨rfl, h2, h3, rfl, h1⟩ | ⟨rfl, h2, h3, rfl, h1⟩
    · exact ⟨rfl, ⟨ao, c, h1⟩, hk⟩
    · rw [if_neg (by simp), if_neg (by rw [h2]; simp)]
      exact ⟨rfl, ⟨ao, c, h1⟩, hk⟩
    · rw [if_neg (by simp), if_pos h2, if_pos h3]
      exact ⟨rfl, ⟨ao, c, h1⟩, hk⟩
    · rw [if_neg (by simp), if_pos h2, if_neg h3]
      exact ⟨rfl, ⟨ao, c, h1⟩, hk⟩
theorem wflush_any (h : Log w K a l d vss off fuse F N base ep rs D) (hv : verBd vss 2) : Calls Tryd.prog 56 #[.pointer (some ⟨l, 0, none⟩)] w fun e w' =>
    e = .returned (flE (a 0) (flushW F ep rs D vss off fuse).2.2.2) ∧ Log w' K a l d (flushW F ep rs D vss off fuse).1 (flushW F ep rs D vss off fuse).2.2.1 (flushW F ep rs D vss off fuse).2.1 F N base ep rs (flD (flushW F ep rs D vss off fuse).2.2.2 rs.length D) ∧ Kept K w w' := wflush_many h (hv.mono (by omega))
end
end Go.Proofs.YtjacenhblclkaaaDoor
