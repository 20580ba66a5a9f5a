/- Lemmas and contracts that the law stands on, joined: WalFlush, See2, WalRead, WalOpen, WalFirst, Lay. -/
import Derived.Test.YtgjhnkadfdcafaaDoorJoin5
import Derived.Test.YtgjhnkadfdcafaaDoorJoin3
import Derived.Test.YtgjhnkadfdcafaaDoorJoin1
import Derived.Test.YtgjhnkadfdcafaaDoorTie
import Derived.Test.YtgjhnkadfdcafaaDoorCards
import Derived.ProofKit
import Derived.LaidMore
import Derived.OpenShut
import Derived.ShutString
import Derived.ChangeOld
import Derived.Below
import Derived.Stop.Joined
import Derived.SevenTiedAt
/- What a log's Flush answers, with power and without, whatever the fuse. -/
namespace Go.Proofs.YtgjhnkadfdcafaaDoor
open Go.RowKit
set_option linter.unusedVariables false

/-- What is answered where it went well, and where power was gone. -/
def flE (x : Addr) (b : Bool) : Value := if b then .nilIface else errV x
/-- How many are flushed behind it. -/
def flD (b : Bool) (n D : Nat) : Nat := if b then n else D
section
variable {w w' : World} {K L : Nat → Prop} {a : Nat → Addr} {l d : Nat} {vss : List (List (List Int))} {off : Bool} {fuse : Int} {F N : Nat} {base ep : Int} {ao : Option Addr} {c : Nat} {rs : List R} {D : Nat}
set_option maxRecDepth 100000 in
set_option maxHeartbeats 1000000 in
theorem wflush_same (h : LogOf w K a l d vss off fuse F N base ep ao c rs D) (hD : D = rs.length) : Calls Tryd.prog 13 #[.pointer (some ⟨l, 0, none⟩)] w fun e w' => e = .returned .nilIface ∧ ∃ m, w' = w.drewN m := by
  obtain ⟨n, hn⟩ : ∃ n, n = rs.length := ⟨_, rfl⟩
  have c5 := h.c5 hn.symm
  have c6 := h.c6
  rw [hD, ← hn] at c6
  have hs := h.small
  have hb := h.bd
  have hnb : n ≤ 1000 := by omega
  clear h hn hD hs hb
  go_enter Tryd.func13, Tryd.ntmps13
  go_wp2_with fail
  go_quiet (fail)
  go_wp2_with fail
  go_ret
  exact ⟨rfl, _, rfl⟩
/-- What became of it: power was off; the fuse went with a block; it went with the Sync; all went well. -/
def flPost (w : World) (K : Nat → Prop) (a : Nat → Addr) (l d : Nat) (vss : List (List (List Int))) (off : Bool) (fuse : Int) (F N : Nat) (base ep : Int) (ao : Option Addr) (c : Nat) (rs : List R) (D : Nat) (G : List (List (List Int)) × Int × Bool) (fv : Value) (w' : World) : Prop :=
  (off = true ∧ fv = errV (a 0) ∧ LogOf w' K a l d vss true fuse F N base ep ao c rs D) ∨ (off = false ∧ G.2.2 = false ∧ fv = errV (a 0) ∧ LogOf w' K a l d G.1 true G.2.1 F N base ep ao c rs D) ∨
  (off = false ∧ G.2.2 = true ∧ G.2.1 = 0 ∧ fv = errV (a 0) ∧ LogOf w' K a l d G.1 true 0 F N base ep ao c rs D) ∨ (off = false ∧ G.2.2 = true ∧ G.2.1 ≠ 0 ∧ fv = .nilIface ∧ LogOf w' K a l d (G.1.map synced) false (burnt G.2.1) F N base ep ao c rs rs.length)
theorem wrUp_step {first : Nat} {ep : Int} {rs : List R} {m k : Nat} {vs : List (List (List Int))} {f : Int} {G : List (List (List Int)) × Int × Bool} (h : wrUp first ep rs m k vs f = G) (hm : 1 ≤ m) (hf : f ≠ 0) : wrUp first ep rs (m - 1) (k + 1) (addS vs (first + k) (blockB ep (chunk rs k))) (burnt f) = G := by
  obtain ⟨q, rfl⟩ : ∃ q, m = q + 1 := ⟨m - 1, by omega⟩
  rw [wrUp, if_neg hf] at h
  exact h
theorem wrUp_burn {first : Nat} {ep : Int} {rs : List R} {m k : Nat} {vs : List (List (List Int))} {G : List (List (List Int)) × Int × Bool} (h : wrUp first ep rs m k vs 0 = G) (hm : 1 ≤ m) : G = (addS vs (first + k) (blockB ep (chunk rs k)), 0, false) := by
  obtain ⟨q, rfl⟩ : ∃ q, m = q + 1 := ⟨m - 1, by omega⟩
  rw [wrUp, if_pos rfl] at h
  exact h.symm
theorem addS_far {vs : List (List (List Int))} {k : Nat} {F : Nat} {b : List Int} (h : ∀ j, F + k ≤ j → (vs.getD j []).length ≤ 2) : ∀ j, F + (k + 1) ≤ j → ((addS vs (F + k) b).getD j []).length ≤ 2 := by
  intro j hj
  refine Nat.le_trans (addS_len _ _ _ _) ?_
  rw [if_neg (by omega)]
  exact h j (by omega)
set_option maxRecDepth 100000 in
set_option maxHeartbeats 4000000 in
theorem wflush_go (h : LogOf w K a l d vss off fuse F N base ep ao c rs D) (hD : D ≠ rs.length) (hv : verBd vss 2) : Calls Tryd.prog 13 #[.pointer (some ⟨l, 0, none⟩)] w fun e w' => ∃ fv, e = .returned fv ∧ flPost w K a l d vss off fuse F N base ep ao c rs D (wrUp F ep rs (blocksOf rs.length - D / 6) (D / 6) vss fuse) fv w' ∧ Kept K w w' := by
  obtain ⟨n, hn⟩ : ∃ n, n = rs.length := ⟨_, rfl⟩
  have c5 := h.c5 hn.symm
  have c6 := h.c6
  have hs := h.small
  have hb := h.bd
  have hnb : n ≤ 1000 := by omega
  have hdb : D ≤ 1000 := by omega
  have hne : ((D : Int) == (n : Int)) = false := by simp; omega
  obtain ⟨k0, hk⟩ : ∃ k0, k0 = D / 6 := ⟨_, rfl⟩
  have hq : (D : Int) / 6 = (k0 : Int) := by omega
  have hkb : k0 ≤ 1000 := by omega
  have hk6 : 6 * k0 < n := by omega
  rw [← hk]
  obtain ⟨G, hG⟩ : ∃ G, wrUp F ep rs (blocksOf rs.length - k0) k0 vss fuse = G := ⟨_, rfl⟩
  rw [hG]
  obtain ⟨B, hB⟩ : ∃ B, B = blocksOf rs.length := ⟨_, rfl⟩
  have hB1 := (blocks_bd rs.length).1
  have hB2 := (blocks_bd rs.length).2
  rw [← hB] at hG hB1 hB2
  rw [← hn] at hB1 hB2
  have HB : Hid (6 * B < n + 6 ∧ n ≤ 6 * B) := ⟨hB1, hB2⟩
  have HH := hide h
  have HN : Hid (rs.length = n) := hn.symm
  have HV := hide hv
  have HG := hide hG
  clear h hn hD hs hb hv hk hG hB hB1 hB2
  go_enter Tryd.func13, Tryd.ntmps13
  go_wp2_with fail
  go_quiet (fail)
  go_wp2_with fail
  go_loopw [3] (fun i wr => ∃ (k : Nat) (vs : List (List (List Int))) (f : Int), i = .int .i64 k ∧ k ≤ B ∧ (off = true → k = k0 ∧ vs = vss ∧ f = fuse) ∧ (off = false → wrUp F ep rs (B - k) k vs f = G) ∧ (∀ j, F + k ≤ j → (vs.getD j []).length ≤ 2) ∧ LogOf wr K a l d vs off f F N base ep ao c rs D ∧ Kept K w wr) (fun i _ => B - (intOf i).toNat)
  case atStart => exact ⟨k0, vss, fuse, rfl, by have := HB.out; omega, fun _ => ⟨rfl, rfl, rfl⟩, fun _ => HG.out, fun j _ => HV.out j, HH.out.drewN _, (Kept.refl K w).drewN _⟩
  case round =>
    clear HH HV c5 c6
    obtain ⟨k, vs, f, rfl, hkB, hoff, hon, hvs, hlog, hkept⟩ := hrel
    have HL := hide hlog
    have HK := hide hkept
    have HOFF := hide hoff
    have HON := hide hon
    have HVS := hide hvs
    have c5 := HL.out.c5 HN.out
    have hkk : k ≤ 1000 := by have := HB.out; omega
    clear hlog hkept hoff hon hvs
    by_cases hlt : 6 * k < n
    · have hki : (k : Int) * 6 < (n : Int) := by omega
      go_wp2_with fail
      refine (wwrite_any HL.out k n HN.out hlt (HVS.out (F + k) (Nat.le_refl _))).mono ?_
      rintro e w1 ⟨hk1, h1, h2, h3⟩
      have HK1 := hide (HK.out.trans hk1)
      have HBB := HB.out
      have hm : 1 ≤ B - k := by omega
      by_cases ho : off = true
      · obtain ⟨rfl, h4⟩ := h3 ho
        obtain ⟨_, rfl, rfl⟩ := HOFF.out ho
        have H4 := hide h4
        have HO := hide ho
        clear h1 h2 h3 h4 hk1 ho HBB
        unfold errV
        go_wp2_with fail
        go_ret
        exact ⟨_, rfl, .inl ⟨HO.out, rfl, H4.out⟩, HK1.out⟩
      · have ho' : off = false := by simpa using ho
        have hwr := HON.out ho'
        by_cases hf : f = 0
        · obtain ⟨rfl, h4⟩ := h2 ho' hf
          rw [hf] at hwr
          have hGG := wrUp_burn hwr hm
          have H4 := hide h4
          have HO := hide ho'
          have HGG := hide hGG
          clear h1 h2 h3 h4 hk1 ho ho' HBB hwr hGG
          unfold errV
          go_wp2_with fail
          go_ret
          exact ⟨_, rfl, .inr (.inl ⟨HO.out, by rw [HGG.out], rfl, by rw [HGG.out]; exact H4.out⟩), HK1.out⟩
        · obtain ⟨rfl, h4⟩ := h1 ho' hf
          have hst := wrUp_step hwr hm hf
          have H4 := hide h4
          have HO := hide ho'
          have HST := hide hst
          clear h1 h2 h3 h4 hk1 ho ho' HBB hwr hst
          go_wp2_with fail
          go_roundw
          case rel => exact ⟨k + 1, _, _, by go_num, by have := HB.out; omega, fun h => absurd (HO.out.symm.trans h) (by simp), fun _ => by rw [show B - (k + 1) = B - k - 1 by omega]; exact HST.out, addS_far HVS.out, by rw [HO.out]; exact H4.out, HK1.out⟩
          case measure => simp [intOf]; omega
    · have hki : decide ((k : Int) * 6 < (n : Int)) = false := by simp; omega
      have hkB' : k = B := by have := HB.out; omega
      have ho : off = false := by
        cases hoo : off with
        | false => rfl
        | true => have := (HOFF.out hoo).1; omega
      have hwr := HON.out ho
      rw [hkB', Nat.sub_self] at hwr
      have hGG : G = (vs, f, true) := hwr.symm
      have HGG := hide hGG
      have HO := hide ho
      have HL2 : Hid (LogOf wr K a l d vs false f F N base ep ao c rs D) := by show LogOf wr K a l d vs false f F N base ep ao c rs D; rw [← ho]; exact HL.out
      have c0 := HL.out.c0
      clear hkB' ho hwr hGG HL
      by_cases hf : f = 0
      · subst hf
        go_wp2_with fail
        refine (sync_burn d HL2.out.disk).mono ?_
        rintro e w1 ⟨rfl, hd, hk1⟩
        have HL3 := hide (HL2.out.turn hd hk1 rfl)
        have HK1 := hide (HK.out.trans (hk1.mono fun k hk => .inl hk))
        clear hd hk1 c0 c5
        unfold errV
        go_wp2_with fail
        go_ret
        exact ⟨_, rfl, .inr (.inr (.inl ⟨HO.out, by rw [HGG.out], by rw [HGG.out], rfl, by rw [HGG.out]; exact HL3.out⟩)), HK1.out⟩
      · go_wp2_with fail
        refine (sync_ok d HL2.out.disk hf).mono ?_
        rintro e w1 ⟨rfl, hd, hk1⟩
        have HL3 := hide (HL2.out.turn hd hk1 (List.length_map _))
        have HK1 := hide (HK.out.trans (hk1.mono fun k hk => .inl hk))
        have c5' := HL3.out.c5 HN.out
        have c6' := HL3.out.c6
        have f6' := HL3.out.fz 6
        have HSD := hide (HL3.out.setDone n (by rw [HN.out]; exact Nat.le_refl _))
        clear hd hk1 c0 c5
        go_wp2_with fail
        go_ret
        exact ⟨_, rfl, .inr (.inr (.inr ⟨HO.out, by rw [HGG.out], by rw [HGG.out]; exact hf, rfl, by rw [HGG.out, HN.out]; exact HSD.out.1⟩)), HK1.out.trans HSD.out.2⟩
/-- Flush: what flushW says. -/
theorem wflush_any (h : Log w K a l d vss off fuse F N base ep rs D) (hv : verBd vss 2) : Calls Tryd.prog 13 #[.pointer (some ⟨l, 0, none⟩)] w fun e w' =>
    e = .returned (flE (a 0) (flushW F ep rs D vss off fuse).2.2.2) ∧ Log w' K a l d (flushW F ep rs D vss off fuse).1 (flushW F ep rs D vss off fuse).2.2.1 (flushW F ep rs D vss off fuse).2.1 F N base ep rs (flD (flushW F ep rs D vss off fuse).2.2.2 rs.length D) ∧ Kept K w w' := by
  obtain ⟨ao, c, h⟩ := h
  by_cases hD : D = rs.length
  · refine (wflush_same h hD).mono ?_
    rintro e w' ⟨rfl, m, rfl⟩
    have e1 : flushW F ep rs D vss off fuse = (vss, fuse, off, true) := by unfold flushW; rw [if_pos hD]
    rw [e1]
    refine ⟨rfl, ⟨ao, c, ?_⟩, (Kept.refl K w).drewN m⟩
    show LogOf _ K a l d vss off fuse F N base ep ao c rs rs.length
    rw [← hD]
    exact h.drewN m
  · refine (wflush_go h hD hv).mono ?_
    rintro e w' ⟨fv, rfl, hp, hk⟩
    unfold flushW
    rw [if_neg hD]
    generalize wrUp F ep rs (blocksOf rs.length - D / 6) (D / 6) vss fuse = G at hp ⊢
    rcases hp with ⟨rfl, rfl, h1⟩ | ⟨rfl, h2, rfl, h1⟩ | ⟨rfl, h2, h3, rfl, h1⟩ | ⟨rfl, h2, h3, rfl, h1⟩
    · exact ⟨rfl, ⟨ao, c, h1⟩, hk⟩
    · rw [if_neg (by simp), if_neg (by rw [h2]; simp)]
      exact ⟨rfl, ⟨ao, c, h1⟩, hk⟩
    · rw [if_neg (by simp), if_pos h2, if_pos h3]
      exact ⟨rfl, ⟨ao, c, h1⟩, hk⟩
    · rw [if_neg (by simp), if_pos h2, if_neg h3]
      exact ⟨rfl, ⟨ao, c, h1⟩, hk⟩
end
end Go.Proofs.YtgjhnkadfdcafaaDoor

/- What phoenixsee.Same answers of an error with a place. -/
namespace Go.Proofs.YtgjhnkadfdcafaaDoor
open Go.RowKit
set_option linter.unusedVariables false

theorem frozen_cells {w : World} {d : Nat} {c : Array Value} {e : TypeId} (h : w.heap[d]? = some (.cells c e (0, 0))) (o : Nat) : w.frozen? ⟨d, o, none⟩ = false := by simp [World.frozen?, h]
/-- A fault as a value. -/
def faultV (c : Int) (p : Bool) (n : Int) : Value := .agg #[.int .i64 c, .bool p, .int .i64 n]
def faultCells (c : Int) (p : Bool) (n : Int) : Obj := .cells #[.int .i64 c, .bool p, .int .i64 n] 57
set_option maxHeartbeats 400000 in
theorem placed_any (c n : Int) (w : World) (hc : c ≠ 0) : Calls Tryd.prog 27 #[.int .i64 c, .int .i64 n] w fun e w' => e = .returned (faultV c true n) ∧ w' = w.alloc (faultCells c true n) := by
  have hc1 : (c == 0) = false := by simpa using hc
  unfold faultV faultCells
  go_enter Tryd.func27, Tryd.ntmps27
  go_wp2_with fail
  exact bodyPost_ret (v := .agg #[.int .i64 c, .bool true, .int .i64 n]) (by simp [results, Tryd.results27, go_sem]) rfl ⟨rfl, rfl⟩
set_option maxHeartbeats 400000 in
theorem sameFault_same (c : Int) (p : Bool) (n : Int) (w : World) : Calls Tryd.prog 46 #[faultV c p n, faultV c p n] w fun e w' => e = .returned (.bool true) ∧ Below w.heap.size w w' := by
  unfold faultV
  go_enter Tryd.func46, Tryd.ntmps46
  cases p
  all_goals
    go_wp2_with fail
    go_ret
    exact ⟨rfl, ((Below.refl _ _).alloc (Nat.le_refl _) _).alloc (by simp) _⟩
/-- An error around another one's place, as a value. -/
def atV (x : Addr) : Value := .iface 98 (.pointer (some x))
theorem assert_at (x : Addr) (w : World) : (Instr.typeAssert (.iface 98 (.pointer (some x))) 33 98 true).run Tryd.prog w = .ok (.tuple #[.pointer (some x), .bool true]) w := by
  simp [Instr.typeAssert, run_underlying Tryd.underlying98]
theorem sentinel_b (w : World) (a : Nat → Addr) (i : Nat) (hi : i < 18) (h : ErrsOf w all18 a) : Calls Tryd.prog 65 #[errV (a i)] w fun e w' => e = .returned (.int .i64 (101 + (i : Int))) ∧ Below w.heap.size w w' := by
  refine (sentinel_any w a i hi h).mono ?_
  rintro e w' ⟨rfl, rfl⟩
  exact ⟨rfl, (Below.refl _ _).alloc (Nat.le_refl _) _⟩
theorem placed_b (c n : Int) (w : World) (hc : c ≠ 0) : Calls Tryd.prog 27 #[.int .i64 c, .int .i64 n] w fun e w' => e = .returned (faultV c true n) ∧ Below w.heap.size w w' := by
  refine (placed_any c n w hc).mono ?_
  rintro e w' ⟨rfl, rfl⟩
  exact ⟨rfl, (Below.refl _ _).alloc (Nat.le_refl _) _⟩
set_option maxRecDepth 100000 in
set_option maxHeartbeats 1000000 in
theorem fault_at (w : World) (a : Nat → Addr) (i : Nat) (hi : i < 18) (b : Nat) (n : Int) (h : ErrsOf w all18 a) (h0 : w.cell? ⟨b, 0, none⟩ = some (.int .i64 n)) (h1 : w.cell? ⟨b, 1, none⟩ = some (errV (a i))) :
    Calls Tryd.prog 47 #[atV ⟨b, 0, none⟩] w fun e w' => e = .returned (faultV (101 + (i : Int)) true n) ∧ Below w.heap.size w w' := by
  obtain ⟨W, hW⟩ : ∃ W, W = w.alloc (faultCells 0 false 0) := ⟨_, rfl⟩
  have HB : Hid (Below w.heap.size w W) := by show Below _ _ _; rw [hW]; exact (Below.refl _ _).alloc (Nat.le_refl _) _
  have hWr : W.heap[w.heap.size]? = some (.cells #[.int .i64 0, .bool false, .int .i64 0] 57 (0, 0)) := by rw [hW]; exact heap_alloc_new _ _
  have HWR := hide hWr
  have HE := hide (h.step HB.out)
  have hlt := World.block_lt_of_cell? w _ h0
  have k0 := (HB.out.cell (p := ⟨b, 0, none⟩) hlt).trans h0
  have k1 : W.cell? ⟨b, 1, none⟩ = some (.iface 120 (.pointer (some (a i)))) := (HB.out.cell (p := ⟨b, 1, none⟩) hlt).trans h1
  have l0 := k0
  have l1 := k1
  rw [hW] at l0 l1
  unfold faultCells at l0 l1
  have HLB : Hid (b < W.heap.size) := Nat.lt_of_lt_of_le hlt HB.out.size
  have HLR : Hid (w.heap.size < W.heap.size) := lt_of_block hWr
  have hne : b ≠ w.heap.size := Nat.ne_of_lt hlt
  have hne' : w.heap.size ≠ b := Ne.symm hne
  have HWE : Hid (w.alloc (.cells #[.int .i64 0, .bool false, .int .i64 0] 57) = W) := hW.symm
  obtain ⟨cd, hcd⟩ : ∃ cd, cd = 101 + (i : Int) := ⟨_, rfl⟩
  have HCD := hide hcd.symm
  have HC : Hid (cd ≠ 0) := by show cd ≠ 0; omega
  rw [← hcd]
  clear h h0 h1 hlt hW hWr hcd
  have hta := assert_at
  unfold atV faultV
  go_enter Tryd.func47, Tryd.ntmps47
  go_wp2_with fail
  clear l0 l1 hta
  rw [HWE.out]
  go_region_held3 (fun w' => w'.cell? ⟨b, 0, none⟩ = some (.int .i64 n) ∧ w'.cell? ⟨b, 1, none⟩ = some (.iface 120 (.pointer (some (a i))))) (first | go_keep | (refine ⟨?_, ?_⟩ <;> assumption))
    (first
      | (go_at_call 65; refine (sentinel_b _ a i hi HE.out.drew).mono ?_; rintro e w2 ⟨rfl, hb2⟩; rw [HCD.out]; have hb2 := of_drew hb2; have m0 := (hb2.cell (p := ⟨b, 0, none⟩) HLB.out).trans k0; have m1 := (hb2.cell (p := ⟨b, 1, none⟩) HLB.out).trans k1; have HB2 := hide hb2; clear hb2)
      | (go_at_call 27; refine (placed_b _ _ _ HC.out).mono ?_; rintro e w3 ⟨rfl, hb3⟩; unfold faultV; have p0 := (hb3.cell (p := ⟨b, 0, none⟩) (Nat.lt_of_lt_of_le HLB.out HB2.out.size)).trans m0; have p1 := (hb3.cell (p := ⟨b, 1, none⟩) (Nat.lt_of_lt_of_le HLB.out HB2.out.size)).trans m1; have hr3 : w3.heap[w.heap.size]? = some (.cells #[.int .i64 0, .bool false, .int .i64 0] 57 (0, 0)) := (hb3.block _ (Nat.lt_of_lt_of_le HLR.out HB2.out.size)).trans ((HB2.out.block _ HLR.out).trans HWR.out); have r0 : w3.cell? ⟨w.heap.size, 0, none⟩ = some (.int .i64 0) := (cell_row hr3 0).trans rfl; have r1 : w3.cell? ⟨w.heap.size, 1, none⟩ = some (.bool false) := (cell_row hr3 1).trans rfl; have r2 : w3.cell? ⟨w.heap.size, 2, none⟩ = some (.int .i64 0) := (cell_row hr3 2).trans rfl; have g0 : w3.frozen? ⟨w.heap.size, 0, none⟩ = false := frozen_cells hr3 0; have g1 : w3.frozen? ⟨w.heap.size, 1, none⟩ = false := frozen_cells hr3 1; have g2 : w3.frozen? ⟨w.heap.size, 2, none⟩ = false := frozen_cells hr3 2; have HB3 := hide (HB2.out.trans (hb3.mono HB2.out.size)); clear hb3 hr3))
  go_wp2_with fail
  exact bodyPost_ret (v := .agg #[.int .i64 cd, .bool true, .int .i64 n]) (by simp [results, Tryd.results47, go_sem, *]) rfl ⟨rfl, (((HB.out.trans (HB3.out.mono HB.out.size)).setCell (p := ⟨w.heap.size, 0, none⟩) (Nat.le_refl _) _).setCell (p := ⟨w.heap.size, 1, none⟩) (Nat.le_refl _) _).setCell (p := ⟨w.heap.size, 2, none⟩) (Nat.le_refl _) _⟩
set_option maxRecDepth 100000 in
set_option maxHeartbeats 1000000 in
theorem same_placed (w : World) (a : Nat → Addr) (i : Nat) (hi : i < 18) (b : Nat) (n c : Int) (hc : c = 101 + (i : Int)) (h : ErrsOf w all18 a) (q0 : w.cell? ⟨b, 0, none⟩ = some (.int .i64 n)) (q1 : w.cell? ⟨b, 1, none⟩ = some (errV (a i))) :
    Calls Tryd.prog 26 #[atV ⟨b, 0, none⟩, faultV c true n] w fun e w' => e = .returned (.bool true) ∧ Below w.heap.size w w' := by
  have HC := hide hc
  obtain ⟨W, hW⟩ : ∃ W, W = w.alloc (.cells #[.int .i64 c, .bool true, .int .i64 n] 57) := ⟨_, rfl⟩
  have hWr : W.heap[w.heap.size]? = some (.cells #[.int .i64 c, .bool true, .int .i64 n] 57 (0, 0)) := by rw [hW]; exact heap_alloc_new _ _
  have HB : Hid (Below w.heap.size w W) := by show Below _ _ _; rw [hW]; exact (Below.refl _ _).alloc (Nat.le_refl _) _
  have HE := hide (h.step HB.out)
  have hlb := World.block_lt_of_cell? w _ q0
  have HQ0 : Hid (W.drew.cell? ⟨b, 0, none⟩ = some (.int .i64 n)) := (HB.out.cell (p := ⟨b, 0, none⟩) hlb).trans q0
  have HQ1 : Hid (W.drew.cell? ⟨b, 1, none⟩ = some (errV (a i))) := (HB.out.cell (p := ⟨b, 1, none⟩) hlb).trans q1
  have h0 : W.cell? ⟨w.heap.size, 0, none⟩ = some (.int .i64 c) := by rw [cell_row hWr]; rfl
  have h1 : W.cell? ⟨w.heap.size, 1, none⟩ = some (.bool true) := by rw [cell_row hWr]; rfl
  have h2 : W.cell? ⟨w.heap.size, 2, none⟩ = some (.int .i64 n) := by rw [cell_row hWr]; rfl
  have hlt := lt_of_block hWr
  have HL0 : Hid ((⟨w.heap.size, 0, none⟩ : Addr).block < W.drew.heap.size) := hlt
  have HL1 : Hid ((⟨w.heap.size, 1, none⟩ : Addr).block < W.drew.heap.size) := hlt
  have HL2 : Hid ((⟨w.heap.size, 2, none⟩ : Addr).block < W.drew.heap.size) := hlt
  have HW := hide hW
  have HSF : Hid (∀ x, Calls Tryd.prog 46 #[.agg #[.int .i64 c, .bool true, .int .i64 n], .agg #[.int .i64 c, .bool true, .int .i64 n]] x fun e w' => e = .returned (.bool true) ∧ Below x.heap.size x w') := fun x => sameFault_same c true n x
  clear h hc hWr hW hlt q0 q1 hlb
  unfold atV faultV
  go_enter Tryd.func26, Tryd.ntmps26
  go_wp2_with fail
  rw [← HW.out]
  go_region_held3 (fun w' => w'.cell? ⟨w.heap.size, 0, none⟩ = some (.int .i64 c) ∧ w'.cell? ⟨w.heap.size, 1, none⟩ = some (.bool true) ∧ w'.cell? ⟨w.heap.size, 2, none⟩ = some (.int .i64 n)) (first | go_keep | (refine ⟨?_, ?_, ?_⟩ <;> assumption))
    (first
      | (go_at_call 47; refine (fault_at _ a i hi b n HE.out.drew HQ0.out HQ1.out).mono ?_; rintro e w2 ⟨rfl, hb2⟩; rw [← HC.out]; unfold faultV; have hb2 := of_drew hb2; have k0 := (hb2.cell HL0.out).trans h0; have k1 := (hb2.cell HL1.out).trans h1; have k2 := (hb2.cell HL2.out).trans h2; have hs2 := hb2.size; have HB2 := hide hb2; clear hb2)
      | (go_at_call 46; refine (HSF.out _).mono ?_; rintro e w3 ⟨rfl, hb3⟩; have m0 := (hb3.cell (p := ⟨w.heap.size, 0, none⟩) (Nat.lt_of_lt_of_le HL0.out HB2.out.size)).trans k0; have m1 := (hb3.cell (p := ⟨w.heap.size, 1, none⟩) (Nat.lt_of_lt_of_le HL0.out HB2.out.size)).trans k1; have m2 := (hb3.cell (p := ⟨w.heap.size, 2, none⟩) (Nat.lt_of_lt_of_le HL0.out HB2.out.size)).trans k2; have HB3 := hide hb3; clear hb3))
  go_wp2_with fail
  go_ret
  exact ⟨rfl, over (over HB.out HB2.out HB.out.size) HB3.out (Nat.le_trans HB.out.size HB2.out.size)⟩
end Go.Proofs.YtgjhnkadfdcafaaDoor

/- What a log's readBlock answers. -/
namespace Go.Proofs.YtgjhnkadfdcafaaDoor
open Go.RowKit
set_option linter.unusedVariables false

/-- A sector's last version is of bytes. -/
theorem Disk.bytes {w : World} {K : Nat → Prop} {a : Nat → Addr} {d : Nat} {vss : List (List (List Int))} {off : Bool} {fuse : Int} (h : Disk w K a d vss off fuse) {k : Nat} (hk : k < vss.length) : Bytes (lastV (vss.getD k [])) ∧ (lastV (vss.getD k [])).length = 256 := by
  obtain ⟨s, ss, h, rfl⟩ := h
  rw [length_vers] at hk
  obtain ⟨x, n, p, hx, hn, hp⟩ := last_part h hk
  rw [vers_at hx, lastV_of hp hn]
  obtain ⟨h1, h2, _⟩ := (h.each x (List.mem_of_getElem? hx)).2.2.2.2 p (List.mem_of_getElem? hp)
  exact ⟨h1.row.2.1, h2⟩
/-- A place and the log's error around it: what lies behind the error that Open answers. -/
structure AtLog (w : World) (a : Nat → Addr) (b : Nat) (k : Int) : Prop where
  pos : w.cell? ⟨b, 0, none⟩ = some (.int .i64 k)
  err : w.cell? ⟨b, 1, none⟩ = some (errV (a 7))
  lt : b < w.heap.size
theorem AtLog.below {w w' : World} {a : Nat → Addr} {b : Nat} {k : Int} (h : AtLog w a b k) (hb : Below w.heap.size w w') : AtLog w' a b k := ⟨(hb.cell (p := ⟨b, 0, none⟩) h.lt).trans h.pos, (hb.cell (p := ⟨b, 1, none⟩) h.lt).trans h.err, Nat.lt_of_lt_of_le h.lt hb.size⟩
theorem at_new (w : World) (a : Nat → Addr) (k : Int) : AtLog (w.alloc (.cells #[.int .i64 k, errV (a 7)] 100)) a w.heap.size k := by
  have e := heap_alloc_new w (.cells #[.int .i64 k, errV (a 7)] 100)
  exact ⟨(cell_row e 0).trans rfl, (cell_row e 1).trans rfl, lt_of_block e⟩
section
variable {w w' : World} {K L : Nat → Prop} {a : Nat → Addr} {l d : Nat} {vss : List (List (List Int))} {off : Bool} {fuse : Int} {F N : Nat} {base ep : Int} {ao : Option Addr} {c : Nat} {rs : List R} {D : Nat}
/-- The block can't be. -/
def badB (xs : List Int) (ep : Int) : Bool := decide (ansC xs ≠ 0) || (decide (0 < (ansR xs).length) && decide (ep ≤ ansN xs))
set_option maxRecDepth 100000 in
set_option maxHeartbeats 4000000 in
theorem wread_any (h : LogOf w K a l d vss false fuse F N base ep ao c rs D) (i : Nat) (hi : i < N) (xs : List Int) (hxs : xs = lastV (verL vss F i)) : Calls Tryd.prog 38 #[.pointer (some ⟨l, 0, none⟩), .int .i64 i] w fun e w' =>
    Below w.heap.size w w' ∧ (badB xs ep = true → ∃ b, e = .returned (.tuple #[.int .i64 0, .slice none 0 0, atV ⟨b, 0, none⟩]) ∧ AtLog w' a b i) ∧
    (badB xs ep = false → ∃ mo mk mc, e = .returned (.tuple #[.int .i64 (ansN xs), .slice mo mk mc, .nilIface]) ∧ (ansR xs).length = mk ∧ RecRow w' mo (ansR xs)) := by
  have hbd := h.bd
  have hsm := h.small
  have hfi : F + i < vss.length := by omega
  have hxb := h.disk.bytes hfi
  have hxv : lastV (vss.getD (F + i) []) = xs := hxs.symm
  rw [hxv] at hxb
  obtain ⟨sn, hsn⟩ : ∃ sn, sn = F + i := ⟨_, rfl⟩
  have hFi : (F : Int) + (i : Int) = (sn : Int) := by omega
  have hFw : IntKind.i64.wrap ((F : Int) + (i : Int)) = (sn : Int) := by rw [IntKind.wrap_i64]; omega
  have hSw : IntKind.i64.wrap (sn : Int) = (sn : Int) := by rw [IntKind.wrap_i64]; omega
  have HSN := hide hsn
  have HFI := hide hfi
  have HXV := hide hxv
  have HXB := hide hxb
  have HH := hide h
  have c0 := h.c0
  have c1 := h.c1
  have hep1 := hbd.2.1.1
  have hep2 := hbd.2.1.2
  clear hsn hfi hxv hxb h hxs hbd hsm
  go_enter Tryd.func38, Tryd.ntmps38
  go_wp2_with fail
  go_region_held3 (fun w' => w'.cell? ⟨l, 0, none⟩ = some (.pointer (some ⟨d, 0, none⟩)) ∧ w'.cell? ⟨l, 1, none⟩ = some (.int .i64 F)) (first | go_keep | (refine ⟨?_, ?_⟩ <;> assumption))
    (first
      | (go_at_call 60; refine (dread_ok d sn (by exact HH.out.disk.drew) (by rw [HSN.out]; exact HFI.out)).mono ?_; rintro e w1 ⟨g, cg, rfl, hg, hown, hlen, hbel⟩; rw [HSN.out, HXV.out] at hown; have hbel := of_drew hbel; have H1 := hide (HH.out.below hbel); have c0' := H1.out.c0; have c1' := H1.out.c1; have HO := hide hown; have HB1 := hide hbel; clear hown hbel hg hlen))
  clear c0 c1 c0' c1'
  go_wp2_with fail
  refine (read_uni (xs := xs) H1.out.errs.blk HO.out.row HXB.out.2 (by have := HO.out.le.1; rw [HXB.out.2] at this; exact this)).mono ?_
  rintro e w2 ⟨mo, mk, mc, fv, rfl, hmk, hrow, hcode, hb2⟩
  have H2 := hide (H1.out.below hb2)
  have HB2 := hide (over HB1.out hb2 HB1.out.size)
  have hmk6 : mk ≤ 6 := by rw [← hmk]; exact ansR_le xs
  have HROW := hide hrow
  have HMK := hide hmk
  obtain ⟨E, hE⟩ : ∃ E, E = ansN xs := ⟨_, rfl⟩
  have hEb := ansN_bd xs
  rw [← hE] at hEb ⊢
  obtain ⟨hE0, hE1⟩ := hEb
  have HE := hide hE
  have c4 := H2.out.c4
  have hE7 := (H2.out.errs 7 (by decide)).2
  unfold errV at hE7
  rw [show gno 7 = 4 from rfl] at hE7
  clear hE hrow hmk hb2
  rcases hcode with ⟨rfl, hc0⟩ | ⟨j, hj, rfl, hcd⟩
  · by_cases hm : 0 < mk
    · have hmi : (0 : Int) < (mk : Int) := by omega
      by_cases hee : ep ≤ E
      · have HBAD : Hid (badB xs ep = true) := by
          show badB xs ep = true
          unfold badB
          rw [HMK.out, ← HE.out]
          simp [hm, hee]
        clear hc0
        go_wp2_with fail
        go_region_held3 (fun w' => w'.cell? ⟨4, 0, none⟩ = some (.iface 120 (.pointer (some (a 7))))) (first | go_keep | assumption) (fail)
        go_wp2_with fail
        go_ret3
        exact ⟨below_drew (over HB2.out (below_box _ _) HB2.out.size), fun _ => ⟨w2.heap.size, rfl, (at_new w2 a i).below (below_drew (Below.refl _ _))⟩, fun hh => absurd (HBAD.out.symm.trans hh) (by simp)⟩
      · have hed : decide (ep ≤ E) = false := by simpa using hee
        have HBAD : Hid (badB xs ep = false) := by
          show badB xs ep = false
          unfold badB
          rw [HMK.out, ← HE.out, hc0]
          simp [hed]
        clear hc0
        go_wp2_with fail
        go_ret3
        exact ⟨HB2.out, fun hh => absurd (HBAD.out.symm.trans hh) (by simp), fun _ => ⟨mo, mk, mc, by rw [← HE.out]; rfl, HMK.out, HROW.out⟩⟩
    · have hmi : decide ((0 : Int) < (mk : Int)) = false := by simp; omega
      have HBAD : Hid (badB xs ep = false) := by
        show badB xs ep = false
        unfold badB
        rw [HMK.out, ← HE.out, hc0]
        simp [hm]
      clear hc0
      go_wp2_with fail
      go_ret3
      exact ⟨HB2.out, fun hh => absurd (HBAD.out.symm.trans hh) (by simp), fun _ => ⟨mo, mk, mc, by rw [← HE.out]; rfl, HMK.out, HROW.out⟩⟩
  · have HBAD : Hid (badB xs ep = true) := by
      show badB xs ep = true
      unfold badB
      rw [hcd]
      simp
      omega
    clear hcd
    unfold errV
    go_wp2_with fail
    go_region_held3 (fun w' => w'.cell? ⟨4, 0, none⟩ = some (.iface 120 (.pointer (some (a 7))))) (first | go_keep | assumption) (fail)
    go_wp2_with fail
    go_ret3
    exact ⟨below_drew (over HB2.out (below_box _ _) HB2.out.size), fun _ => ⟨w2.heap.size, rfl, (at_new w2 a i).below (below_drew (Below.refl _ _))⟩, fun hh => absurd (HBAD.out.symm.trans hh) (by simp)⟩
end
end Go.Proofs.YtgjhnkadfdcafaaDoor

/- What wal.Open answers of whatever disk. -/
namespace Go.Proofs.YtgjhnkadfdcafaaDoor
open Go.RowKit
set_option linter.unusedVariables false

theorem wpList_append_run {P : Program} {w : World} {ops : Array Oper} {rest : List Oper} {o : Oper} {a : Act} {Q : Exit → Act → World → Prop} (hgd : o.guard = none) (s x : Operand) (t : TypeId) (ho : o.op = .call { callee := .builtin .append, args := #[s, x], argTypes := #[t, t] }) (vs vx : Value) (hs : a.eval s = vs) (hx : a.eval x = vx)
    {v' : Value} {w' : World} (hr : (Builtin.append_ #[t, t] o.type #[vs, vx]).run P w = .ok v' w') (h : wpList P ops Q rest (a.put o.dst v') w') : wpList P ops Q (o :: rest) a w :=
  wpList_plain hgd fun _ hK => by
    unfold Oper.wp execOp
    simp only [ho, resolve, invoke, builtin, Sem.run_bind, Sem.run_pure, Result.andThen_ok, List.map_toArray, List.map_cons, List.map_nil, hs, hx, hr]
    exact hK _ _ h
/-- What is read of block k. -/
def rdL (vss : List (List (List Int))) (F k : Nat) : List Int := lastV (verL vss F k)
theorem badB_iff (xs : List Int) (ep : Int) : badB xs ep = true ↔ ansC xs ≠ 0 ∨ (0 < (ansR xs).length ∧ ep ≤ ansN xs) := by simp [badB]
theorem badB_not (xs : List Int) (ep : Int) : badB xs ep = false ↔ ansC xs = 0 ∧ ((ansR xs).length = 0 ∨ ansN xs < ep) := by
  rw [← Bool.not_eq_true, badB_iff]
  constructor
  · intro h
    refine ⟨?_, ?_⟩
    · by_cases h1 : ansC xs = 0
      · exact h1
      · exact absurd (.inl h1) h
    · by_cases h1 : (ansR xs).length = 0
      · exact .inl h1
      · refine .inr ?_
        by_cases h2 : ansN xs < ep
        · exact h2
        · exact absurd (.inr ⟨by omega, by omega⟩) h
  · rintro ⟨h1, h2⟩ (h3 | ⟨h3, h4⟩)
    · exact h3 h1
    · omega
section
variable {rd : Nat → List Int} {ep least : Int} {n k : Nat} {acc : List R}
theorem openUp_bad (h : badB (rd k) ep = true) : openUp rd ep (n + 1) k least acc = ([], (k : Int)) := by
  rw [openUp]
  rcases (badB_iff _ _).1 h with h1 | ⟨h1, h2⟩
  · rw [if_pos h1]
  · by_cases h3 : ansC (rd k) ≠ 0
    · rw [if_pos h3]
    · rw [if_neg h3, if_neg (by omega), if_pos h2]
theorem openUp_end (h : badB (rd k) ep = false) (h2 : (ansR (rd k)).length = 0 ∨ ansN (rd k) < least) : openUp rd ep (n + 1) k least acc = (acc, -1) := by
  obtain ⟨h3, h4⟩ := (badB_not _ _).1 h
  rw [openUp, if_neg (by simpa using h3)]
  by_cases h5 : (ansR (rd k)).length = 0
  · rw [if_pos h5]
  · rw [if_neg h5, if_neg (by omega), if_pos (by omega)]
theorem openUp_part (h : badB (rd k) ep = false) (h2 : ¬ (ansR (rd k)).length = 0) (h5 : ¬ ansN (rd k) < least) (h6 : (ansR (rd k)).length < 6) : openUp rd ep (n + 1) k least acc = (acc ++ ansR (rd k), -1) := by
  obtain ⟨h3, h4⟩ := (badB_not _ _).1 h
  rw [openUp, if_neg (by simpa using h3), if_neg h2, if_neg (by omega), if_neg h5, if_pos h6]
theorem openUp_full (h : badB (rd k) ep = false) (h2 : ¬ (ansR (rd k)).length = 0) (h5 : ¬ ansN (rd k) < least) (h6 : ¬ (ansR (rd k)).length < 6) : openUp rd ep (n + 1) k least acc = openUp rd ep n (k + 1) (ansN (rd k)) (acc ++ ansR (rd k)) := by
  obtain ⟨h3, h4⟩ := (badB_not _ _).1 h
  rw [openUp, if_neg (by simpa using h3), if_neg h2, if_neg (by omega), if_neg h5, if_neg h6]
end
section
variable {w w' : World} {K L : Nat → Prop} {a : Nat → Addr} {l d : Nat} {vss : List (List (List Int))} {off : Bool} {fuse : Int} {F N : Nat} {base ep : Int} {ao : Option Addr} {c : Nat} {rs : List R} {D : Nat}
/-- Many records are appended: what the builtin does, and the log behind it. -/
theorem append_many (h : LogOf w K a l d vss off fuse F N base ep ao c rs D) (n m : Nat) (hn : rs.length = n) (ts : List R) (hm : ts.length = m) {mo : Option Addr} {mc : Nat} (hrow : RecRow w mo ts) (h0 : 0 < m) (hg : ∀ r ∈ ts, goodB r = true ∧ r.fits) (hroom : n + m ≤ 6 * N) (hb : base + (n : Int) + m ≤ 1073741824) (ty : TypeId) :
    ∃ ao' c' w1, (Builtin.append_ #[28, 28] ty #[.slice ao n c, .slice mo m mc]).run Tryd.prog w = .ok (.slice ao' (n + m) c') w1 ∧ w1.cell? ⟨l, 5, none⟩ = some (.slice ao n c) ∧ w1.frozen? ⟨l, 5, none⟩ = false ∧
      LogOf (w1.setCell ⟨l, 5, none⟩ (.slice ao' (n + m) c')) K a l d vss off fuse F N base ep ao' c' (rs ++ ts) D ∧ Kept K w (w1.setCell ⟨l, 5, none⟩ (.slice ao' (n + m) c')) := by
  subst hn; subst hm
  have hsm := h.small
  obtain ⟨b, o, rfl, hc⟩ := hrow.2 h0
  obtain ⟨ao', c', w1, hr, ho, hgr, hbw, hat⟩ := run_appendR (yc := mc) h.own rfl rfl (by omega) (Nat.zero_le _) hc ty
  have hln : (rs ++ ts).length = rs.length + ts.length := List.length_append
  have hg2 := h.grown (ts := ts) ho hgr (by rw [hln]; exact hat) (by rw [hln]; push_cast; omega) (by rw [hln]; exact hroom) hg
  rw [hln] at hg2
  have hl1 := lt_of_block h.head
  have e : w1.heap[l]? = _ := (hgr.block l hl1 (fun e => h.ne e.symm rfl)).trans h.head
  exact ⟨ao', c', w1, hr, (cell_row e 5).trans rfl, frozen_row e 5, hg2.1, hg2.2⟩
/-- What Open answers. -/
def openPost (w : World) (K : Nat → Prop) (a : Nat → Addr) (d : Nat) (vss : List (List (List Int))) (fuse : Int) (F N : Nat) (base ep : Int) (G : List R × Int) (v : Value) (w' : World) : Prop :=
  (G.2 = -1 ∧ ∃ l, v = .tuple #[.pointer (some ⟨l, 0, none⟩), .nilIface] ∧ Log w' K a l d vss false fuse F N base ep G.1 G.1.length) ∨ (0 ≤ G.2 ∧ ∃ b, v = .tuple #[.pointer none, atV ⟨b, 0, none⟩] ∧ AtLog w' a b G.2 ∧ Disk w' K a d vss false fuse)
set_option maxRecDepth 100000 in
set_option maxHeartbeats 4000000 in
theorem wopen_any (h : Disk w K a d vss false fuse) (he : ErrsK w K a) (reset : Int) (hb : 0 ≤ base ∧ base + 6 * (N : Int) ≤ 1073741824) (hep : 1 ≤ ep ∧ ep ≤ 1073741824) (hF : F + N ≤ vss.length) (hN : N ≤ 100) :
    Calls Tryd.prog 15 #[.pointer (some ⟨d, 0, none⟩), .int .i64 F, .int .i64 N, .int .i64 base, .int .i64 reset, .int .i64 ep] w fun e w' => ∃ v, e = .returned v ∧ openPost w K a d vss fuse F N base ep (openUp (rdL vss F) ep N 0 reset []) v w' ∧ Kept K w w' := by
  obtain ⟨G, hG⟩ : ∃ G, openUp (rdL vss F) ep N 0 reset [] = G := ⟨_, rfl⟩
  rw [hG]
  have HNEW := hide (log_new h he ⟨hb.1, by omega⟩ hep hF hN)
  have HB0 := hide ((Below.refl w.heap.size w).alloc (Nat.le_refl _) (.cells (logCells d F N base ep (.slice none 0 0) 0) 72))
  have HK0 := hide (Kept.of_below HB0.out h.low)
  have HG := hide hG
  have HBS := hide hb
  have HFN := hide hF
  clear h he hb hep hF hG
  go_enter Tryd.func15, Tryd.ntmps15
  go_wp2_with fail
  refine (wnew_any d F N base ep w (by omega)).mono ?_
  rintro e w0 ⟨rfl, hw0⟩
  rw [← hw0] at HNEW HB0 HK0
  obtain ⟨l, hl⟩ : ∃ l, l = w.heap.size := ⟨_, rfl⟩
  rw [← hl] at HNEW ⊢
  have c2 := HNEW.out.c2
  clear hw0 hl
  go_wp2_with fail
  go_loopw [15, 31] (fun ls i wr => ∃ (k n : Nat) (least : Int) (rs : List R) (ao : Option Addr) (c : Nat), i = .int .i64 k ∧ k ≤ N ∧ ls = .int .i64 least ∧ openUp (rdL vss F) ep (N - k) k least rs = G ∧ rs.length = n ∧ n ≤ 6 * k ∧ LogOf wr K a l d vss false fuse F N base ep ao c rs 0 ∧ Kept K w wr) (fun _ i _ => N - (intOf i).toNat)
  case atStart => exact ⟨0, 0, reset, [], none, 0, rfl, by omega, rfl, HG.out, rfl, by omega, HNEW.out, HK0.out⟩
  case round =>
    clear HNEW HB0 HK0 c2
    obtain ⟨k, n, least, rs, ao, c, rfl, hk, rfl, hop, hn, hn6, hlog, hkept⟩ := hrel
    have HL := hide hlog
    have HK := hide hkept
    have HOP := hide hop
    have HN := hide hn
    clear hlog hkept hop hn
    by_cases hlt : k < N
    · have hki : (k : Int) < (N : Int) := by omega
      go_wp2_with fail
      refine (wread_any HL.out k hlt (rdL vss F k) rfl).mono ?_
      rintro e w1 ⟨hb1, hbad, hok⟩
      have hm1 : N - k = (N - k - 1) + 1 := by omega
      have HL1 := hide (HL.out.below hb1)
      have HK1 := hide (HK.out.trans (Kept.of_below hb1 HL.out.low))
      have hop := HOP.out
      rw [hm1] at hop
      have hgood := ansR_good (HL.out.disk.bytes (k := F + k) (by have := HFN.out; omega)).1
      have hg2 : ∀ r ∈ ansR (rdL vss F k), goodB r = true ∧ r.fits := hgood
      have HGD := hide hg2
      clear hgood hg2 hb1
      cases hbb : badB (rdL vss F k) ep with
      | true =>
        obtain ⟨b, rfl, hat⟩ := hbad hbb
        rw [openUp_bad hbb] at hop
        have HGG : Hid (G = ([], (k : Int))) := hop.symm
        have HAT := hide hat
        have HDK := hide (HL1.out.disk.narrow (K := K) (fun k hk => .inl hk) HL1.out.errs)
        clear hop hat hbad hok hbb hm1
        unfold atV
        go_wp2_with fail
        go_ret2
        exact ⟨_, rfl, .inr ⟨by rw [HGG.out]; exact Int.natCast_nonneg k, b, rfl, by rw [HGG.out]; exact HAT.out, HDK.out⟩, HK1.out⟩
      | false =>
        obtain ⟨mo, mk, mc, rfl, hmk, hrow⟩ := hok hbb
        have HMK := hide hmk
        have HROW := hide hrow
        have HBB := hide hbb
        have HOP2 := hide hop
        have hmk6 : mk ≤ 6 := by rw [← hmk]; exact ansR_le _
        obtain ⟨E, hE⟩ : ∃ E, E = ansN (rdL vss F k) := ⟨_, rfl⟩
        have hEb := ansN_bd (rdL vss F k)
        rw [← hE] at hEb ⊢
        have HE := hide hE
        clear hop hrow hmk hbad hok hbb hm1 hE
        by_cases hend : mk = 0 ∨ E < least
        · have HGG : Hid (G = (rs, -1)) := by
            show G = (rs, -1)
            rw [← HOP2.out]
            exact openUp_end HBB.out (by rw [HMK.out, ← HE.out]; exact hend)
          have c5 := HL1.out.c5 HN.out
          have c6 := HL1.out.c6
          have f6 := HL1.out.fz 6
          have HSD := hide (HL1.out.setDone n (by rw [HN.out]; exact Nat.le_refl _))
          by_cases hz : mk = 0
          · subst hz
            clear hend
            go_wp2_with fail
            go_ret2
            exact ⟨_, rfl, .inl ⟨by rw [HGG.out], l, rfl, ao, c, by rw [HGG.out, HN.out]; exact HSD.out.1⟩, HK1.out.trans HSD.out.2⟩
          · have hzi : ((mk : Int) == 0) = false := by simp; omega
            have hel : E < least := by omega
            clear hend
            go_wp2_with fail
            go_ret2
            exact ⟨_, rfl, .inl ⟨by rw [HGG.out], l, rfl, ao, c, by rw [HGG.out, HN.out]; exact HSD.out.1⟩, HK1.out.trans HSD.out.2⟩
        · have hz : ¬ mk = 0 := fun h => hend (.inl h)
          have hel : ¬ E < least := fun h => hend (.inr h)
          have hzi : ((mk : Int) == 0) = false := by simp; omega
          have held : decide (E < least) = false := by simpa using hel
          have hfn := HFN.out
          have hbs := HBS.out
          obtain ⟨ao', c', w3, hrun, hc3, hf3, hlog, hkept⟩ := append_many (mc := mc) HL1.out n mk HN.out _ HMK.out HROW.out (by omega) HGD.out (by omega) (by omega) 28
          have HRUN := hide hrun
          have HL3 := hide hlog
          have HK3 := hide (HK1.out.trans hkept)
          have HN3 : Hid ((rs ++ ansR (rdL vss F k)).length = n + mk) := by show _ = _; rw [List.length_append, HN.out, HMK.out]
          have c5 := HL1.out.c5 HN.out
          clear hrun hlog hkept hend hfn hbs
          by_cases h6 : mk < 6
          · have h6i : (mk : Int) < 6 := by omega
            have HGG : Hid (G = (rs ++ ansR (rdL vss F k), -1)) := by
              show G = _
              rw [← HOP2.out]
              exact openUp_part HBB.out (by rw [HMK.out]; exact hz) (by rw [← HE.out]; exact hel) (by rw [HMK.out]; exact h6)
            have c5' := HL3.out.c5 HN3.out
            have c6' := HL3.out.c6
            have f6' := HL3.out.fz 6
            have hsd := HL3.out.setDone (n + mk) (by rw [HN3.out]; exact Nat.le_refl _)
            rw [Int.natCast_add] at hsd
            have HSD := hide hsd
            clear hsd
            go_wp2_with (at_builtin; refine wpList_append_run (by rfl) (.tmp 56) (.tmp 57) 28 (by rfl) _ _ (by rfl) (by rfl) HRUN.out ?_)
            go_ret2
            exact ⟨_, rfl, .inl ⟨by rw [HGG.out], l, rfl, ao', c', by rw [HGG.out, HN3.out]; exact HSD.out.1⟩, HK3.out.trans HSD.out.2⟩
          · have h6i : decide ((mk : Int) < 6) = false := by simp; omega
            have h66 : mk = 6 := by omega
            subst h66
            have HGG : Hid (openUp (rdL vss F) ep (N - k - 1) (k + 1) E (rs ++ ansR (rdL vss F k)) = G) := by
              show _ = G
              rw [← HOP2.out, openUp_full HBB.out (by rw [HMK.out]; exact hz) (by rw [← HE.out]; exact hel) (by rw [HMK.out]; exact h6), HE.out]
            go_wp2_with (at_builtin; refine wpList_append_run (by rfl) (.tmp 56) (.tmp 57) 28 (by rfl) _ _ (by rfl) (by rfl) HRUN.out ?_)
            go_roundw
            case rel => exact ⟨k + 1, n + 6, E, _, ao', c', by go_num, by omega, rfl, by rw [show N - (k + 1) = N - k - 1 by omega]; exact HGG.out, HN3.out, by omega, HL3.out, HK3.out⟩
            case measure => simp [intOf]; omega
    · have hki : decide ((k : Int) < (N : Int)) = false := by simp; omega
      have hkN : k = N := by omega
      have hGG : G = (rs, -1) := by have := HOP.out; rw [hkN, Nat.sub_self] at this; exact this.symm
      have HGG := hide hGG
      have c5 := HL.out.c5 HN.out
      have c6 := HL.out.c6
      have f6 := HL.out.fz 6
      have HSD := hide (HL.out.setDone n (by rw [HN.out]; exact Nat.le_refl _))
      clear hkN hGG
      go_wp2_with fail
      go_ret2
      exact ⟨_, rfl, .inl ⟨by rw [HGG.out], l, rfl, ao, c, by rw [HGG.out, HN.out]; exact HSD.out.1⟩, HK.out.trans HSD.out.2⟩
end
end Go.Proofs.YtgjhnkadfdcafaaDoor

/- The chapter's examples on logs, as the statements ask them first: they hold, and nothing that was there is written. A disk and a log on it, made. -/
namespace Go.Proofs.YtgjhnkadfdcafaaDoor
open Go.RowKit
set_option linter.unusedVariables false

/-- What is ahead of block B. -/
def ahead (B k : Nat) : Prop := k < B
theorem errs_ahead {w : World} {ks : List Nat} {a : Nat → Addr} (h : ErrsOf w ks a) (hs : ∀ i ∈ seven, i ∈ ks) : ErrsK w (ahead w.heap.size) a := h.errsK hs fun k hk => hk
theorem errs_three {w : World} {ks : List Nat} {a : Nat → Addr} (h : ErrsOf w ks a) (hs : ∀ i ∈ seven, i ∈ ks) : Errs w (fun b => b < w.heap.size) a := (errs_ahead h hs).three
theorem seven18 : ∀ i ∈ seven, i ∈ all18 := by decide
theorem seven7 : ∀ i ∈ seven, i ∈ [0, 1, 2, 3, 4, 7, 8] := by decide
section
variable {w w' : World} {K L : Nat → Prop} {a : Nat → Addr} {l d : Nat} {vss : List (List (List Int))} {off : Bool} {fuse : Int} {F N : Nat} {base ep : Int} {rs : List R} {D : Nat}
theorem Log.drewN (h : Log w K a l d vss off fuse F N base ep rs D) (n : Nat) : Log (w.drewN n) K a l d vss off fuse F N base ep rs D := by obtain ⟨ao, c, h⟩ := h; exact ⟨ao, c, h.drewN n⟩
theorem Log.below (h : Log w K a l d vss off fuse F N base ep rs D) (hb : Below w.heap.size w w') : Log w' K a l d vss off fuse F N base ep rs D := by obtain ⟨ao, c, h⟩ := h; exact ⟨ao, c, h.below hb⟩
theorem Log.low (h : Log w K a l d vss off fuse F N base ep rs D) : ∀ k, K k → k < w.heap.size := by obtain ⟨ao, c, h⟩ := h; exact h.low
theorem Log.widen (h : Log w K a l d vss off fuse F N base ep rs D) (hb : Below w.heap.size w w') : Log w' (wider K w.heap.size w'.heap.size) a l d vss off fuse F N base ep rs D := by obtain ⟨ao, c, h⟩ := h; exact ⟨ao, c, h.widen hb⟩
theorem Log.stays (h : Log w K a l d vss off fuse F N base ep rs D) (hs : w.heap.size ≤ w'.heap.size) (hold : ∀ k, k < w.heap.size → ¬ K k → w'.heap[k]? = w.heap[k]?) (hL : ∀ k, L k → k < w'.heap.size ∧ (k < w.heap.size → K k)) (he : ErrsK w' L a) : Log w' L a l d vss off fuse F N base ep rs D := by obtain ⟨ao, c, h⟩ := h; exact ⟨ao, c, h.stays hs hold hL he⟩
theorem Log.errs (h : Log w K a l d vss off fuse F N base ep rs D) : ErrsK w K a := by obtain ⟨ao, c, h⟩ := h; exact h.errs
theorem Log.kept (h : Log w K a l d vss off fuse F N base ep rs D) (hb : Below w.heap.size w w') : Kept K w w' := Kept.of_below hb h.low
/-- The log's disk, by itself. -/
theorem Log.disk (h : Log w K a l d vss off fuse F N base ep rs D) : Disk w K a d vss off fuse := by obtain ⟨ao, c, h⟩ := h; exact h.disk.narrow (fun k hk => .inl hk) h.errs
end
/-- A disk is made, and a log on it. -/
theorem log_made {w w1 : World} {ks : List Nat} {a : Nat → Addr} {d n F N : Nat} {base ep : Int} (he : ErrsOf w ks a) (hs : ∀ i ∈ seven, i ∈ ks) (hd : Disk w1 (fun b => b < w.heap.size) a d (List.replicate n [fillOf 0]) false (-1)) (hb : Below w.heap.size w w1) (h0 : 0 ≤ base ∧ base ≤ 1073741824) (hep : 1 ≤ ep ∧ ep ≤ 1073741824) (hF : F + N ≤ n) (hN : N ≤ 100) :
    Log (w1.alloc (.cells (logCells d F N base ep (.slice none 0 0) 0) 72)) (ahead w.heap.size) a w1.heap.size d (List.replicate n [fillOf 0]) false (-1) F N base ep [] 0 ∧ Below w.heap.size w (w1.alloc (.cells (logCells d F N base ep (.slice none 0 0) 0) 72)) :=
  ⟨⟨none, 0, log_new hd ((errs_ahead he hs).kept (Kept.of_below hb fun k hk => hk)) h0 hep (by rw [List.length_replicate]; exact hF) hN⟩, over hb (below_box _ _) hb.size⟩
set_option maxRecDepth 100000 in
set_option maxHeartbeats 1000000 in
theorem wfirst_any (w : World) {ks : List Nat} {a : Nat → Addr} (he : ErrsOf w ks a) (hs : ∀ i ∈ seven, i ∈ ks) : Calls Tryd.prog 8 #[] w fun e w' => e = .returned (.bool true) ∧ Below w.heap.size w w' := by
  have HE := hide he
  have HS := hide hs
  clear he hs
  go_enter Tryd.func8, Tryd.ntmps8
  go_wp2_with fail
  refine (new_any 5 5 (.inr (.inl ⟨by omega, by omega, rfl⟩)) (errs_three HE.out HS.out)).mono ?_
  rintro e w1 ⟨d, rfl, hd, hdisk, hbel⟩
  have HM := hide (log_made (F := 1) (N := 2) (base := 7) (ep := 1) HE.out HS.out hdisk hbel (by omega) (by omega) (by omega) (by omega))
  clear hdisk hbel hd
  go_wp2_with fail
  refine (wnew_any d 1 2 7 1 w1 (by omega)).mono ?_
  rintro e w2 ⟨rfl, rfl⟩
  obtain ⟨W, hW⟩ : ∃ W, W = w1.alloc (.cells (logCells d 1 2 7 1 (.slice none 0 0) 0) 72) := ⟨_, rfl⟩
  rw [← hW] at HM ⊢
  obtain ⟨l, hl⟩ : ∃ l, l = w1.heap.size := ⟨_, rfl⟩
  rw [← hl] at HM ⊢
  clear hW hl
  go_wp2_with fail
  refine (wlast_any HM.out.1 0 rfl).mono ?_
  rintro e w3 ⟨rfl, m, rfl⟩
  go_wp2_with fail
  refine (wdone_any (HM.out.1.drewN m)).mono ?_
  rintro e w3 ⟨rfl, m2, rfl⟩
  go_wp2_with fail
  refine (wbase_any (HM.out.1.drewN _)).mono ?_
  rintro e w3 ⟨rfl, rfl⟩
  go_wp2_with fail
  refine (wroom_any (HM.out.1.drewN _) 0 rfl).mono ?_
  rintro e w3 ⟨rfl, m3, rfl⟩
  rw [show roomI 2 0 7 = 12 from rfl]
  go_wp2_with fail
  go_ret
  exact ⟨rfl, below_drewN HM.out.2 _⟩
end Go.Proofs.YtgjhnkadfdcafaaDoor

/- What the variables of package api that a row lists hold when a call begins: errors, each in memory of its own. -/
namespace Go.Proofs.YtgjhnkadfdcafaaDoor
open Go.RowKit
set_option linter.unusedVariables false

theorem Tryd.name120 : Tryd.prog.typeName? 3 120 = some "*errors.errorString" := by kernel_rfl
theorem Tryd.cells137 : Tryd.prog.cellsOf 137 = 1 := by kernel_rfl
theorem Tryd.cells9 : Tryd.prog.cellsOf 9 = 1 := by kernel_rfl
theorem Tryd.star : "*" ++ "errors.errorString" = "*errors.errorString" := by decide
theorem Tryd.only120 (u : TypeId) (h : Tryd.prog.typeName? 3 u = some "*errors.errorString") : u = 120 :=
  typeName_ptr_named (nm := "errors.errorString") (by rw [Tryd.star]; kernel_rfl) (by kernel_rfl) (by decide) u (by rw [Tryd.star]; exact h)

/-- A list of errors; ks: their places in the document's list. -/
def sentsB (P : Program) : List Nat → List (String × DataW Unit) → Bool
  | [], [] => true
  | k :: ks, (n, d) :: r => (match d with | .iface nm (.ptr (.agg [.lit (.string _)])) => nm == "*errors.errorString" | _ => false) && decide (P.globalNamed n = some (gno k)) && decide ((P.globals[gno k]?).map (·.type) = some 33) && sentsB P ks r
  | _, _ => false
theorem sent_shape {d : DataW Unit} (h : (match d with | .iface nm (.ptr (.agg [.lit (.string _)])) => nm == "*errors.errorString" | _ => false) = true) : ∃ text, d = .iface "*errors.errorString" (.ptr (.agg [.lit (.string text)])) := by
  split at h
  · rename_i nm text
    exact ⟨text, by rw [eq_of_beq h]⟩
  · simp at h
set_option maxRecDepth 100000 in
theorem sents_of {W : World} : ∀ (l : List (String × DataW Unit)) (ks : List Nat) (ps : List MemPlace), sentsB Tryd.prog ks l = true → DataW.LaidVars Tryd.prog W l ps →
    (∀ b off, MemPlace.cell b off ∈ ps → (∃ c t, W.heap[b]? = some (.cells c t (0, 0))) ∧ ∀ u v, W.cell? ⟨b, off, none⟩ = some (.iface u v) → Value.okWide Tryd.prog W .any 0 u v) →
    ∃ xas : List Addr, xas.length = ks.length ∧ (∀ (i k : Nat) (x : Addr), ks[i]? = some k → xas[i]? = some x → W.cell? ⟨gno k, 0, none⟩ = some (errV x) ∧ (∃ c t, W.heap[x.block]? = some (.cells c t (0, 0))) ∧ MemPlace.cell x.block x.off ∈ ps) ∧ (ps.Nodup → xas.Nodup) := by
  intro l
  induction l with
  | nil =>
    intro ks ps hs _ _
    cases ks with
    | nil => exact ⟨[], rfl, fun i k x h => by simp at h, fun _ => List.nodup_nil⟩
    | cons k ks => simp [sentsB] at hs
  | cons e r ih =>
    obtain ⟨n, d⟩ := e
    intro ks ps hs hl hrows
    cases ks with
    | nil => simp [sentsB] at hs
    | cons k ks =>
      simp only [sentsB, Bool.and_eq_true, decide_eq_true_eq] at hs
      obtain ⟨⟨⟨h1, h2⟩, h3⟩, h4⟩ := hs
      obtain ⟨text, rfl⟩ := sent_shape h1
      obtain ⟨g, t, cs, fuel, p, q, hg, ht, hv, hd, hq, rfl⟩ := hl
      obtain rfl := Option.some.inj (h2.symm.trans hg)
      obtain rfl := Option.some.inj (h3.symm.trans ht)
      obtain ⟨xas, a1, a2, a3⟩ := ih ks q h4 hq (fun b off hm => hrows b off (List.mem_append_right _ hm))
      obtain ⟨l0⟩ := cs
      have ok : ∀ u v, l0 = [.iface u v] → Value.okWide Tryd.prog W .any 0 u v := fun u v e => by
        subst e
        exact (hrows (gno k) 0 (by simp [MemPlace.row])).2 u v (by simpa using World.var?_cell hg hv 0)
      obtain ⟨x, s, rfl, hc, _, _, rfl⟩ := errorString_of_trod Tryd.underlying33 Tryd.only120 Tryd.underlying120 Tryd.underlying137 rfl rfl Tryd.underlying9 Tryd.cells137 Tryd.cells9 hd ok
      have hmem : MemPlace.cell x.block x.off ∈ MemPlace.row ⟨gno k, 0, none⟩ 1 ++ MemPlace.row x 1 ++ q := by simp [MemPlace.row]
      refine ⟨x :: xas, by simp [a1], fun i k' y hk hy => ?_, fun hnd => ?_⟩
      · cases i with
        | zero =>
          simp at hy hk
          subst hy
          subst hk
          refine ⟨?_, (hrows _ _ hmem).1, hmem⟩
          have := World.var?_cell hg hv 0
          simpa [errV] using this
        | succ i =>
          obtain ⟨b1, b2, b3⟩ := a2 i k' y (by simpa using hk) (by simpa using hy)
          exact ⟨b1, b2, List.mem_append_right _ b3⟩
      · rw [List.nodup_append] at hnd
        obtain ⟨_, hq2, hd2⟩ := hnd
        refine List.nodup_cons.2 ⟨fun hin => ?_, a3 hq2⟩
        obtain ⟨i, hi⟩ := List.getElem?_of_mem hin
        have hil : i < ks.length := by rw [← a1]; exact (List.getElem?_eq_some_iff.1 hi).1
        have h5 := (a2 i _ x (List.getElem?_eq_getElem hil) hi).2.2
        exact hd2 (MemPlace.cell x.block x.off) (by simp [MemPlace.row]) (MemPlace.cell x.block x.off) h5 rfl
theorem errs_of_laid {l : List (String × DataW Unit)} {W : World} (ks : List Nat) (h : laidMetH Tryd.prog l W) (h1 : (l.all fun x => x.2.handleName?.isNone) = true) (h2 : sentsB Tryd.prog ks l = true) (h3 : ks.Nodup) : ∃ a : Nat → Addr, ErrsOf W ks a := by
  rw [MakeChecks.laidMetH_plain _ _ _ h1] at h
  obtain ⟨ps, hl, hnd, hrows⟩ := h
  obtain ⟨xas, b1, b2, b3⟩ := sents_of l ks ps h2 hl hrows
  have hix : ∀ k ∈ ks, ks[ks.idxOf k]? = some k := fun k hk => by
    rw [List.getElem?_eq_getElem (List.idxOf_lt_length_of_mem hk), List.getElem_idxOf]
  have hat : ∀ k ∈ ks, xas[ks.idxOf k]? = some (xas.getD (ks.idxOf k) ⟨0, 0, none⟩) := fun k hk => by
    have := List.idxOf_lt_length_of_mem hk
    rw [List.getD_eq_getElem?_getD, List.getElem?_eq_getElem (by omega)]; rfl
  refine ⟨fun k => xas.getD (ks.idxOf k) ⟨0, 0, none⟩, fun k hk => (b2 _ k _ (hix k hk) (hat k hk)).1, fun k hk => (b2 _ k _ (hix k hk) (hat k hk)).2.1, fun i hi j hj hij e => ?_⟩
  have h4 := hat i hi
  have h5 := hat j hj
  rw [show xas.getD (ks.idxOf j) ⟨0, 0, none⟩ = xas.getD (ks.idxOf i) ⟨0, 0, none⟩ from e.symm] at h5
  have hlt := List.idxOf_lt_length_of_mem hi
  have h6 := (List.getElem?_inj (i := ks.idxOf i) (j := ks.idxOf j) (by omega) (b3 hnd)).1 (h4.trans h5.symm)
  have h7 := hix i hi
  rw [h6, hix j hj] at h7
  exact hij (Option.some.inj h7).symm
end Go.Proofs.YtgjhnkadfdcafaaDoor
