/- Lemmas and contracts that the law stands on, joined: ROpen. -/
import Derived.Test.YtjacenhblclkaaaGreatDoorJoin35
import Derived.Test.YtjacenhblclkaaaGreatDoorJoin36
/- The document's own log: what OpenLog answers of whatever disk with power. -/
namespace Go.Proofs.YtjacenhblclkaaaGreatDoor
open Go.RowKit
set_option linter.unusedVariables false

section
variable {w w' : World} {L M : Nat → Prop} {z y s cap F N : Nat} {vss : List (List (List Int))} {left : Int} {gone : Bool} {base ep : Int} {ao : Option Addr} {c : Nat} {rs : List R} {D : Nat}
/-- What a log reads is there already. -/
theorem RL.low (h : RL w L z y F N base ep ao c rs D) : RL w (fun g => L g ∧ g < w.heap.size) z y F N base ep ao c rs D := by
  refine ⟨h.head, h.row, h.cap, fun b off e hp => ⟨h.mrow b off e hp, ?_⟩, h.mz, h.lt⟩
  obtain ⟨b', off', e', hc⟩ := h.row.2 hp
  rw [e] at e'
  simp only [Option.some.injEq, Addr.mk.injEq] at e'
  obtain ⟨rfl, rfl, _⟩ := e'
  obtain ⟨r, hr⟩ : ∃ r, rs[0]? = some r := ⟨rs[0]'hp, List.getElem?_eq_getElem _⟩
  exact (hc 0 r hr).lt
/-- Its records are those of a list of our own: written into its cell. -/
theorem RL.lay {B : Nat} {v : Value} {bo : Option Addr} {d n : Nat} {ts : List R} (h : w.heap[z]? = some (.cells (rlogCells y F N base ep v D) 105 (0, 0))) (ho : OwnR w B bo d ts) (hn : ts.length = n) (hB : z < B) (hL : ∀ g, B ≤ g → L g) (hz : L z) :
    RL (w.setCell ⟨z, 5, none⟩ (.slice bo n d)) L z y F N base ep bo d ts D ∧ OwnR (w.setCell ⟨z, 5, none⟩ (.slice bo n d)) B bo d ts := by
  subst hn
  have ho' : OwnR (w.setCell ⟨z, 5, none⟩ (.slice bo ts.length d)) B bo d ts := ⟨owns_of_block ho.1 fun g hg _ => Below.heap_setCell _ _ _ _ (show g ≠ z from fun e => by have := (ho.1.lt g hg).1; omega), ho.2⟩
  refine ⟨⟨set_block h 5 _, ho'.row, ho.le, fun b off e hp => hL b ?_, hz⟩, ho'⟩
  subst e
  exact (ho.1.lt b rfl).1
/-- Many records are appended to a log of our own: what the builtin does, and the log behind it. -/
theorem rappend_many (h : RL w L z y F N base ep ao c rs D) {B : Nat} (ho : OwnR w B ao c rs) (hB : z < B) (hBw : B ≤ w.heap.size) (hL : ∀ g, B ≤ g → L g) (n m : Nat) (hn : rs.length = n) (ts : List R) (hm : ts.length = m) {mo : Option Addr} {mc : Nat} (hrow : RecRow w mo ts) (h0 : 0 < m) (hs : n + m ≤ 1000) (ty : TypeId) :
    ∃ ao' c' w1, (Builtin.append_ #[103, 103] ty #[.slice ao n c, .slice mo m mc]).run Tryz.prog w = .ok (.slice ao' (n + m) c') w1 ∧ w1.cell? ⟨z, 5, none⟩ = some (.slice ao n c) ∧ w1.frozen? ⟨z, 5, none⟩ = false ∧ Below B w w1 ∧
      RL (w1.setCell ⟨z, 5, none⟩ (.slice ao' (n + m) c')) L z y F N base ep ao' c' (rs ++ ts) D ∧ OwnR (w1.setCell ⟨z, 5, none⟩ (.slice ao' (n + m) c')) B ao' c' (rs ++ ts) := by
  subst hn; subst hm
  obtain ⟨b, o, rfl, hc⟩ := hrow.2 h0
  obtain ⟨ao', c', w1, hr, ho1, _, hbw, _⟩ := run_appendR (yc := mc) ho rfl rfl hs hBw hc ty
  have e : w1.heap[z]? = some (.cells (rlogCells y F N base ep (.slice ao rs.length c) D) 105 (0, 0)) := (hbw.block z hB).trans h.head
  have hl := RL.lay (L := L) e ho1 (show _ = rs.length + ts.length from List.length_append) hB hL h.mz
  exact ⟨ao', c', w1, hr, (cell_row e 5).trans rfl, frozen_row e 5, hbw, hl.1, hl.2⟩
theorem rdL_get {k : Nat} (h : F + k < vss.length) : ∃ vs, vss[F + k]? = some vs ∧ lastV vs = rdL vss F k := by
  refine ⟨vss[F + k]'h, List.getElem?_eq_getElem h, ?_⟩
  unfold rdL verL
  rw [List.getD_eq_getElem?_getD, List.getElem?_eq_getElem h]
  rfl
/-- A fault lies at a block. -/
def FaultAt (w : World) (X : Nat) (cd : Int) (p : Bool) (n : Int) : Prop := w.heap[X]? = some (.cells #[.int .i64 cd, .bool p, .int .i64 n] 55 (0, 0))
theorem FaultAt.under {X B : Nat} {cd n : Int} {p : Bool} (h : FaultAt w X cd p n) (hb : Below B w w') (hX : X < B) : FaultAt w' X cd p n := (hb.block X hX).trans h
theorem FaultAt.step {X : Nat} {cd n : Int} {p : Bool} (h : FaultAt w X cd p n) (hb : Below w.heap.size w w') : FaultAt w' X cd p n := h.under hb (lt_of_block h)
theorem FaultAt.set {X : Nat} {cd n : Int} {p : Bool} (h : FaultAt w X cd p n) {q : Nat} (hq : X ≠ q) (o : Nat) (v : Value) : FaultAt (w.setCell ⟨q, o, none⟩ v) X cd p n := (Below.heap_setCell _ _ _ _ (show X ≠ q from hq)).trans h
theorem RD.len (h : RD w M y s cap vss left gone) {i : Nat} {vs : List (List Int)} (hi : vss[i]? = some vs) : (lastV vs).length = 256 := by
  obtain ⟨b, o, c, h1, h2, h3, h4⟩ := h.sec hi
  have hlast : vs[vs.length - 1]? = some (lastV vs) := by unfold lastV; rw [List.getD_eq_getElem?_getD, List.getElem?_eq_getElem (by omega)]; rfl
  exact (h4 _ _ hlast).1
/-- A fault, written into its three cells. -/
def set3 (w : World) (X : Nat) (cd : Int) (p : Bool) (n : Int) : World := ((w.setCell ⟨X, 0, none⟩ (.int .i64 cd)).setCell ⟨X, 1, none⟩ (.bool p)).setCell ⟨X, 2, none⟩ (.int .i64 n)
theorem below_set3 {B X : Nat} (h : Below B w w') (hX : B ≤ X) (cd : Int) (p : Bool) (n : Int) : Below B w (set3 w' X cd p n) := by
  unfold set3
  exact ((h.setCell (p := ⟨X, 0, none⟩) hX _).setCell (p := ⟨X, 1, none⟩) hX _).setCell (p := ⟨X, 2, none⟩) hX _
theorem ropen_fin {wr w6 : World} {X : Nat} (hl : RL wr (fun g => z ≤ g) z y F N base ep ao c rs 0) (hf : FaultAt wr X 0 false 0) (hb : Below w.heap.size w wr) (hX : X = w.heap.size) (hz : z = X + 1) (n : Nat) (hn : rs.length = n) (q : Nat) (hw6 : w6 = ((wr.drewN q).setCell ⟨z, 6, none⟩ (.int .i64 (base + n))).alloc (.cells #[.int .i64 0, .bool false, .int .i64 0] 55)) :
    FaultAt w6 X 0 false 0 ∧ RL w6 (fun g => z ≤ g) z y F N base ep ao c rs rs.length ∧ Below w.heap.size w w6 := by
  subst hn
  have h1 := (hl.drewN q).mark rs.length
  have hbx := below_box ((wr.drewN q).setCell ⟨z, 6, none⟩ (.int .i64 (base + rs.length))) (.cells #[.int .i64 0, .bool false, .int .i64 0] 55)
  rw [hw6]
  have hf1 : FaultAt ((wr.drewN q).setCell ⟨z, 6, none⟩ (.int .i64 (base + rs.length))) X 0 false 0 := FaultAt.set (w := wr.drewN q) hf (by omega) _ _
  have hb1 : Below w.heap.size w ((wr.drewN q).setCell ⟨z, 6, none⟩ (.int .i64 (base + rs.length))) := (below_drewN hb q).setCell (p := ⟨z, 6, none⟩) (show w.heap.size ≤ z by omega) _
  exact ⟨hf1.step hbx, h1.step hbx, hb1.trans (hbx.mono hb1.size)⟩
theorem ropen_fin2 {w6 : World} {X : Nat} (hl : RL w6 (fun g => z ≤ g) z y F N base ep ao c rs D) (hb : Below w.heap.size w w6) (hX : X = w.heap.size) (hz : z = X + 1) : RL (set3 w6 X 0 false 0) (fun g => w.heap.size ≤ g) z y F N base ep ao c rs D ∧ Below w.heap.size w (set3 w6 X 0 false 0) := by
  have hne : ∀ g, z ≤ g → (set3 w6 X 0 false 0).heap[g]? = w6.heap[g]? := fun g hg => by
    unfold set3
    have h : g ≠ X := by omega
    exact (Below.heap_setCell _ _ _ _ h).trans ((Below.heap_setCell _ _ _ _ h).trans (Below.heap_setCell _ _ _ _ h))
  exact ⟨(hl.kept (by simp [set3, World.setCell]) hne).wide fun g hg => by omega, below_set3 hb (by omega) _ _ _⟩
/-- What OpenLog answers. -/
def ropenPost (w : World) (y F N : Nat) (base ep : Int) (G : List R × Int) (v : Value) (w' : World) : Prop :=
  (G.2 = -1 ∧ ∃ z ao c, v = .tuple #[.pointer (some ⟨z, 0, none⟩), faultV 0 false 0] ∧ RL w' (fun g => w.heap.size ≤ g) z y F N base ep ao c G.1 G.1.length) ∨ (0 ≤ G.2 ∧ v = .tuple #[.pointer none, faultV 108 true G.2])
set_option maxRecDepth 100000 in
set_option maxHeartbeats 4000000 in
theorem ropen_any (hd : RD w M y s cap vss left false) (reset : Int) (hb : 0 ≤ base ∧ base + 6 * (N : Int) ≤ 1073741824) (hF : F + N ≤ vss.length) (hN : N ≤ 100) (hv : ∀ j, (vss.getD j []).length ≤ 3) :
    Calls Tryz.prog 23 #[.pointer (some ⟨y, 0, none⟩), .int .i64 F, .int .i64 N, .int .i64 base, .int .i64 reset, .int .i64 ep] w fun e w' => ∃ v, e = .returned v ∧ ropenPost w y F N base ep (openUp (rdL vss F) ep N 0 reset []) v w' ∧ Below w.heap.size w w' := by
  obtain ⟨G, hG⟩ : ∃ G, openUp (rdL vss F) ep N 0 reset [] = G := ⟨_, rfl⟩
  rw [hG]
  have HG := hide hG
  have HBS := hide hb
  have HFN := hide hF
  have HD := hide hd
  have HVB := hide hv
  have HMY := hide hd.many
  obtain ⟨X, hX⟩ : ∃ X, X = w.heap.size := ⟨_, rfl⟩
  have HX := hide hX
  clear hb hF hG hd hv hX
  go_enter Tryz.func23, Tryz.ntmps23
  go_wp2_with fail
  refine (rnewlog_any y F N base ep _).mono ?_
  rintro e w1 ⟨rfl, hw1⟩
  have hs0 : (w.alloc (faultCells 0 false 0)).heap.size = w.heap.size + 1 := by simp
  have HF0 : Hid (FaultAt w1 X 0 false 0) := by
    show FaultAt _ _ _ _ _
    rw [hw1, HX.out]
    exact FaultAt.under (w := w.alloc (faultCells 0 false 0)) (heap_alloc_new w _) ((Below.refl (w.alloc (faultCells 0 false 0)).heap.size _).alloc (Nat.le_refl _) _) (by simp)
  have HB0 : Hid (Below w.heap.size w w1) := by
    show Below _ _ _
    rw [hw1]
    exact ((Below.refl w.heap.size w).alloc (Nat.le_refl _) _).alloc (by simp) _
  have HZ0 : Hid ((w.alloc (.cells #[.int .i64 0, .bool false, .int .i64 0] 55)).heap.size = X + 1) := by show _ = _; rw [HX.out]; simp
  have HL0 : Hid (RL w1 (fun g => (w.alloc (.cells #[.int .i64 0, .bool false, .int .i64 0] 55)).heap.size ≤ g) (w.alloc (.cells #[.int .i64 0, .bool false, .int .i64 0] 55)).heap.size y F N base ep none 0 [] 0) := by
    show RL _ _ _ _ _ _ _ _ _ _ _ _
    rw [hw1]
    exact rl_new _ _ _ _ _ _ _ (Nat.le_refl _)
  clear hw1 hs0
  obtain ⟨z, hz⟩ : ∃ z, z = (w.alloc (.cells #[.int .i64 0, .bool false, .int .i64 0] 55)).heap.size := ⟨_, rfl⟩
  rw [← hz] at HZ0 HL0 ⊢
  have HZ : Hid (z = X + 1) := HZ0.out
  have HXS := HX
  clear hz HZ0
  go_wp2_with fail
  go_loopw [15, 16] (fun ls i wr => ∃ (k n : Nat) (least : Int) (rs : List R) (ao : Option Addr) (c : Nat), i = .int .i64 k ∧ k ≤ N ∧ ls = .int .i64 least ∧ openUp (rdL vss F) ep (N - k) k least rs = G ∧ rs.length = n ∧ n ≤ 6 * k ∧ RL wr (fun g => z ≤ g) z y F N base ep ao c rs 0 ∧ OwnR wr (z + 1) ao c rs ∧ FaultAt wr X 0 false 0 ∧ Below w.heap.size w wr) (fun _ i _ => N - (intOf i).toNat)
  case atStart => exact ⟨0, 0, reset, [], none, 0, rfl, by omega, rfl, HG.out, rfl, by omega, HL0.out, ownR_nil _ _, HF0.out, HB0.out⟩
  case round =>
    clear HL0 HF0 HB0
    obtain ⟨k, n, least, rs, ao, c, rfl, hk, rfl, hop, hn, hn6, hlog, hown, hfa, hbl⟩ := hrel
    have HL := hide hlog
    have HOW := hide hown
    have HFA := hide hfa
    have HB := hide hbl
    have HOP := hide hop
    have HN := hide hn
    clear hlog hown hfa hbl hop hn
    by_cases hlt : k < N
    · have hki : (k : Int) < (N : Int) := by omega
      have hfi : F + k < vss.length := by have := HFN.out; omega
      obtain ⟨vs, hvs, hla⟩ := rdL_get hfi
      have HVS := hide hvs
      have HLA := hide hla
      have HLN : Hid (vs.length ≤ 1000000) := by
        have h := HVB.out (F + k)
        rw [List.getD_eq_getElem?_getD, hvs] at h
        simp only [Option.getD_some] at h
        show _ ≤ _
        omega
      obtain ⟨sn, hsn⟩ : ∃ sn, sn = F + k := ⟨_, rfl⟩
      have hFi : (F : Int) + (k : Int) = (sn : Int) := by omega
      have hsnb : sn ≤ 200 := by have := HMY.out; omega
      have HSN := hide hsn
      clear hvs hla hfi hsn
      go_wp2_with fail
      refine (rdread_ok sn (HD.out.step HB.out) (by rw [HSN.out]; exact HVS.out) HLN.out).mono ?_
      rintro e w2 ⟨g, rfl, hg, hown2, hb2⟩
      rw [HLA.out] at hown2
      have HOW2 := hide hown2
      have HB2a := hide hb2
      have HLEN : Hid ((rdL vss F k).length = 256) := by show _ = _; rw [← HLA.out]; exact HD.out.len HVS.out
      clear hown2 hb2 hg
      go_wp2_with fail
      refine (rread_uni HOW2.out.row HLEN.out (Nat.le_refl _)).mono ?_
      rintro e w3 ⟨mo, mk, mc, rfl, hmk, hrow, hb3⟩
      have hb23 := HB2a.out.trans (hb3.mono HB2a.out.size)
      have HL2 := hide (HL.out.step hb23)
      have HF2 := hide (HFA.out.step hb23)
      have HO2 := hide (HOW.out.below hb23 (Nat.le_refl _))
      have HB2 := hide (HB.out.trans (hb23.mono HB.out.size))
      have HMK := hide hmk
      have HROW := hide hrow
      have hmk6 : mk ≤ 6 := by rw [← hmk]; exact ansR_le _
      have hop := HOP.out
      rw [show N - k = (N - k - 1) + 1 by omega, openUp] at hop
      obtain ⟨E, hE⟩ : ∃ E, E = ansN (rdL vss F k) := ⟨_, rfl⟩
      obtain ⟨C, hC⟩ : ∃ C, C = ansC (rdL vss F k) := ⟨_, rfl⟩
      rw [← hE, ← hC, hmk] at hop
      rw [← hE, ← hC]
      clear hb3 hb23 hmk hrow HB2a HOW2 HLEN HOP hE hC HL HFA HOW HB
      by_cases hC : C = 0
      · subst hC
        rw [if_neg (by simp)] at hop
        have c5 := HL2.out.c5 HN.out
        by_cases hz : mk = 0
        · subst hz
          rw [if_pos rfl] at hop
          have HGG : Hid (G = (rs, -1)) := hop.symm
          clear hop
          go_wp2_with fail
          refine (rlast_cells z base ao n c _ HL2.out.c3 (HL2.out.c5 HN.out) (by have := HBS.out; omega) (by omega)).mono ?_
          rintro e w5 ⟨rfl, q, rfl⟩
          have f6 := HL2.out.fz 6
          have c6 := HL2.out.c6
          go_wp2_with fail
          refine (none_any _).mono ?_
          rintro e w6 ⟨rfl, hw6⟩
          obtain ⟨hf6, hl6, hb6⟩ := ropen_fin HL2.out HF2.out HB2.out HX.out HZ.out n HN.out q hw6
          have HL6 := hide hl6
          have HB6 := hide hb6
          have FX0 := (cell_row hf6 0).trans (show _ = some (Value.int .i64 0) from rfl)
          have FX1 := (cell_row hf6 1).trans (show _ = some (Value.bool false) from rfl)
          have FX2 := (cell_row hf6 2).trans (show _ = some (Value.int .i64 0) from rfl)
          have FZ0 := frozen_row hf6 0
          have FZ1 := frozen_row hf6 1
          have FZ2 := frozen_row hf6 2
          rw [HX.out] at FX0 FX1 FX2 FZ0 FZ1 FZ2
          clear hl6 hb6 hf6 hw6 f6 c6
          go_wp2_with fail
          have HFIN := ropen_fin2 HL6.out HB6.out HX.out HZ.out
          rw [HX.out] at HFIN
          exact bodyPost_ret (v := .tuple #[.pointer (some ⟨z, 0, none⟩), .agg #[.int .i64 0, .bool false, .int .i64 0]]) (by simp [results, Tryz.results23, go_sem, FX0, FX1, FX2]) rfl ⟨_, rfl, .inl ⟨by rw [HGG.out], z, ao, c, rfl, by rw [HGG.out]; exact HFIN.1⟩, HFIN.2⟩
        · rw [if_neg hz] at hop
          have hzi : ((mk : Int) == 0) = false := by simp; omega
          by_cases hge : ep ≤ E
          · rw [if_pos hge] at hop
            have HGG : Hid (G = ([], (k : Int))) := hop.symm
            clear hop
            go_wp2_with fail
            refine (placed_b 108 k w3 (by decide)).mono ?_
            rintro e w6 ⟨rfl, hb6⟩
            have hf6 := HF2.out.step hb6
            have HB6 := hide (HB2.out.trans (hb6.mono HB2.out.size))
            have FX0 := (cell_row hf6 0).trans (show _ = some (Value.int .i64 0) from rfl)
            have FX1 := (cell_row hf6 1).trans (show _ = some (Value.bool false) from rfl)
            have FX2 := (cell_row hf6 2).trans (show _ = some (Value.int .i64 0) from rfl)
            have FZ0 := frozen_row hf6 0
            have FZ1 := frozen_row hf6 1
            have FZ2 := frozen_row hf6 2
            rw [HX.out] at FX0 FX1 FX2 FZ0 FZ1 FZ2
            clear hb6 hf6
            unfold faultV
            go_wp2_with fail
            exact bodyPost_ret (v := .tuple #[.pointer none, .agg #[.int .i64 108, .bool true, .int .i64 k]]) (by simp [results, Tryz.results23, go_sem, FX0, FX1, FX2]) rfl ⟨_, rfl, .inr ⟨by rw [HGG.out]; exact Int.natCast_nonneg k, by rw [HGG.out]; rfl⟩, below_set3 HB6.out (Nat.le_refl _) 108 true k⟩
          · rw [if_neg hge] at hop
            have hgei : decide (ep ≤ E) = false := by simpa using hge
            by_cases hel : E < least
            · rw [if_pos hel] at hop
              have HGG : Hid (G = (rs, -1)) := hop.symm
              clear hop
              go_wp2_with fail
              refine (rlast_cells z base ao n c _ HL2.out.c3 (HL2.out.c5 HN.out) (by have := HBS.out; omega) (by omega)).mono ?_
              rintro e w5 ⟨rfl, q, rfl⟩
              have f6 := HL2.out.fz 6
              have c6 := HL2.out.c6
              go_wp2_with fail
              refine (none_any _).mono ?_
              rintro e w6 ⟨rfl, hw6⟩
              obtain ⟨hf6, hl6, hb6⟩ := ropen_fin HL2.out HF2.out HB2.out HX.out HZ.out n HN.out q hw6
              have HL6 := hide hl6
              have HB6 := hide hb6
              have FX0 := (cell_row hf6 0).trans (show _ = some (Value.int .i64 0) from rfl)
              have FX1 := (cell_row hf6 1).trans (show _ = some (Value.bool false) from rfl)
              have FX2 := (cell_row hf6 2).trans (show _ = some (Value.int .i64 0) from rfl)
              have FZ0 := frozen_row hf6 0
              have FZ1 := frozen_row hf6 1
              have FZ2 := frozen_row hf6 2
              rw [HX.out] at FX0 FX1 FX2 FZ0 FZ1 FZ2
              clear hl6 hb6 hf6 hw6 f6 c6
              go_wp2_with fail
              have HFIN := ropen_fin2 HL6.out HB6.out HX.out HZ.out
              rw [HX.out] at HFIN
              exact bodyPost_ret (v := .tuple #[.pointer (some ⟨z, 0, none⟩), .agg #[.int .i64 0, .bool false, .int .i64 0]]) (by simp [results, Tryz.results23, go_sem, FX0, FX1, FX2]) rfl ⟨_, rfl, .inl ⟨by rw [HGG.out], z, ao, c, rfl, by rw [HGG.out]; exact HFIN.1⟩, HFIN.2⟩
            · rw [if_neg hel] at hop
              have held : decide (E < least) = false := by simpa using hel
              have hzz : z + 1 ≤ w3.heap.size := by have := HL2.out.lt; omega
              obtain ⟨ao', c', w4, hrun, hc4, hf4, hb4, hl4, ho4⟩ := rappend_many (mc := mc) HL2.out HO2.out (Nat.lt_succ_self z) hzz (fun g hg => by omega) n mk HN.out _ HMK.out HROW.out (by omega) (by omega) 103
              obtain ⟨m, hm⟩ : ∃ m, m = n + mk := ⟨_, rfl⟩
              rw [← hm] at hrun hl4 ho4
              have HM := hide hm
              have hmb : m ≤ 600 := by omega
              have HRUN := hide hrun
              have HL4 := hide hl4
              have HO4 := hide ho4
              have HF4 : Hid (FaultAt (w4.setCell ⟨z, 5, none⟩ (.slice ao' m c')) X 0 false 0) := (HF2.out.under hb4 (by have := HZ.out; omega)).set (by have := HZ.out; omega) _ _
              have HB4 : Hid (Below w.heap.size w (w4.setCell ⟨z, 5, none⟩ (.slice ao' m c'))) := (HB2.out.trans (hb4.mono (show w.heap.size ≤ z + 1 by have := HZ.out; have := HX.out; omega))).setCell (p := ⟨z, 5, none⟩) (show w.heap.size ≤ z by have := HZ.out; have := HX.out; omega) _
              have HN4 : Hid ((rs ++ ansR (rdL vss F k)).length = m) := by show _ = _; rw [List.length_append, HN.out, HMK.out, HM.out]
              clear hrun hl4 ho4 hb4 hzz HROW hm
              by_cases h6 : mk < 6
              · rw [if_pos h6] at hop
                have h6i : (mk : Int) < 6 := by omega
                have HGG : Hid (G = (rs ++ ansR (rdL vss F k), -1)) := hop.symm
                clear hop
                go_wp2_with (at_builtin; refine wpList_append_run (by rfl) (.tmp 72) (.tmp 73) 103 (by rfl) _ _ (by rfl) (by rfl) HRUN.out ?_)
                refine (rlast_cells z base ao' m c' _ HL4.out.c3 (HL4.out.c5 HN4.out) (by have := HBS.out; omega) (by omega)).mono ?_
                rintro e w5 ⟨rfl, q, rfl⟩
                have f6 := HL4.out.fz 6
                have c6 := HL4.out.c6
                go_wp2_with fail
                refine (none_any _).mono ?_
                rintro e w6 ⟨rfl, hw6⟩
                obtain ⟨hf6, hl6, hb6⟩ := ropen_fin HL4.out HF4.out HB4.out HX.out HZ.out m HN4.out q hw6
                have HL6 := hide hl6
                have HB6 := hide hb6
                have FX0 := (cell_row hf6 0).trans (show _ = some (Value.int .i64 0) from rfl)
                have FX1 := (cell_row hf6 1).trans (show _ = some (Value.bool false) from rfl)
                have FX2 := (cell_row hf6 2).trans (show _ = some (Value.int .i64 0) from rfl)
                have FZ0 := frozen_row hf6 0
                have FZ1 := frozen_row hf6 1
                have FZ2 := frozen_row hf6 2
                rw [HX.out] at FX0 FX1 FX2 FZ0 FZ1 FZ2
                clear hl6 hb6 hf6 hw6 f6 c6
                go_wp2_with fail
                have HFIN := ropen_fin2 HL6.out HB6.out HX.out HZ.out
                rw [HX.out] at HFIN
                exact bodyPost_ret (v := .tuple #[.pointer (some ⟨z, 0, none⟩), .agg #[.int .i64 0, .bool false, .int .i64 0]]) (by simp [results, Tryz.results23, go_sem, FX0, FX1, FX2]) rfl ⟨_, rfl, .inl ⟨by rw [HGG.out], z, ao', c', rfl, by rw [HGG.out]; exact HFIN.1⟩, HFIN.2⟩
              · rw [if_neg h6] at hop
                have h6i : decide ((mk : Int) < 6) = false := by simp; omega
                have h66 : mk = 6 := by omega
                subst h66
                have HGG := hide hop
                clear hop
                go_wp2_with (at_builtin; refine wpList_append_run (by rfl) (.tmp 72) (.tmp 73) 103 (by rfl) _ _ (by rfl) (by rfl) HRUN.out ?_)
                go_roundw
                case rel => exact ⟨k + 1, m, E, _, ao', c', by go_num, by omega, rfl, by rw [show N - (k + 1) = N - k - 1 by omega]; exact HGG.out, HN4.out, by have := HM.out; omega, HL4.out, HO4.out, HF4.out, HB4.out⟩
                case measure => simp [intOf]; omega
      · rw [if_pos hC] at hop
        have hCi : (C == 0) = false := by simpa using hC
        have HGG : Hid (G = ([], (k : Int))) := hop.symm
        clear hop
        go_wp2_with fail
        refine (placed_b 108 k w3 (by decide)).mono ?_
        rintro e w6 ⟨rfl, hb6⟩
        have hf6 := HF2.out.step hb6
        have HB6 := hide (HB2.out.trans (hb6.mono HB2.out.size))
        have FX0 := (cell_row hf6 0).trans (show _ = some (Value.int .i64 0) from rfl)
        have FX1 := (cell_row hf6 1).trans (show _ = some (Value.bool false) from rfl)
        have FX2 := (cell_row hf6 2).trans (show _ = some (Value.int .i64 0) from rfl)
        have FZ0 := frozen_row hf6 0
        have FZ1 := frozen_row hf6 1
        have FZ2 := frozen_row hf6 2
        rw [HX.out] at FX0 FX1 FX2 FZ0 FZ1 FZ2
        clear hb6 hf6
        unfold faultV
        go_wp2_with fail
        exact bodyPost_ret (v := .tuple #[.pointer none, .agg #[.int .i64 108, .bool true, .int .i64 k]]) (by simp [results, Tryz.results23, go_sem, FX0, FX1, FX2]) rfl ⟨_, rfl, .inr ⟨by rw [HGG.out]; exact Int.natCast_nonneg k, by rw [HGG.out]; rfl⟩, below_set3 HB6.out (Nat.le_refl _) 108 true k⟩
    · have hki : decide ((k : Int) < (N : Int)) = false := by simp; omega
      have hkN : k = N := by omega
      have HGG : Hid (G = (rs, -1)) := by have := HOP.out; rw [hkN, Nat.sub_self] at this; exact this.symm
      clear hkN
      go_wp2_with fail
      refine (rlast_cells z base ao n c _ HL.out.c3 (HL.out.c5 HN.out) (by have := HBS.out; omega) (by omega)).mono ?_
      rintro e w5 ⟨rfl, q, rfl⟩
      have f6 := HL.out.fz 6
      have c6 := HL.out.c6
      go_wp2_with fail
      refine (none_any _).mono ?_
      rintro e w6 ⟨rfl, hw6⟩
      obtain ⟨hf6, hl6, hb6⟩ := ropen_fin HL.out HFA.out HB.out HX.out HZ.out n HN.out q hw6
      have HL6 := hide hl6
      have HB6 := hide hb6
      have FX0 := (cell_row hf6 0).trans (show _ = some (Value.int .i64 0) from rfl)
      have FX1 := (cell_row hf6 1).trans (show _ = some (Value.bool false) from rfl)
      have FX2 := (cell_row hf6 2).trans (show _ = some (Value.int .i64 0) from rfl)
      have FZ0 := frozen_row hf6 0
      have FZ1 := frozen_row hf6 1
      have FZ2 := frozen_row hf6 2
      rw [HX.out] at FX0 FX1 FX2 FZ0 FZ1 FZ2
      clear hl6 hb6 hf6 hw6 f6 c6
      go_wp2_with fail
      have HFIN := ropen_fin2 HL6.out HB6.out HX.out HZ.out
      rw [HX.out] at HFIN
      exact bodyPost_ret (v := .tuple #[.pointer (some ⟨z, 0, none⟩), .agg #[.int .i64 0, .bool false, .int .i64 0]]) (by simp [results, Tryz.results23, go_sem, FX0, FX1, FX2]) rfl ⟨_, rfl, .inl ⟨by rw [HGG.out], z, ao, c, rfl, by rw [HGG.out]; exact HFIN.1⟩, HFIN.2⟩
end
end Go.Proofs.YtjacenhblclkaaaGreatDoor
