/- Lemmas and contracts that the law stands on, joined: WalRead, WalOpen, WalFirst, WalSeq, WalSide, WalKp. -/
import Derived.Test.YtjacenhblclkaaaGreatDoorJoin34
import Derived.Test.YtjacenhblclkaaaGreatDoorJoin5
import Derived.Test.YtjacenhblclkaaaGreatDoorJoin15
/- What a log's readBlock answers. -/
namespace Go.Proofs.YtjacenhblclkaaaGreatDoor
open Go.RowKit
set_option linter.unusedVariables false

/-- A sector's last version is of bytes. -/
theorem Disk.bytes {w : World} {K : Nat → Prop} {a : Nat → Addr} {d : Nat} {vss : List (List (List Int))} {off : Bool} {fuse : Int} (h : Disk w K a d vss off fuse) {k : Nat} (hk : k < vss.length) : Bytes (lastV (vss.getD k [])) ∧ (lastV (vss.getD k [])).length = 256 := by
  obtain ⟨s, ss, h, rfl⟩ := h
  rw [length_vers] at hk
  obtain ⟨x, n, p, hx, hn, hp⟩ := last_part h hk
  rw [vers_at hx, lastV_of hp hn]
  obtain ⟨h1, h2, _⟩ := (h.each x (List.mem_of_getElem? hx)).2.2.2.2 p (List.mem_of_getElem? hp)
  exact ⟨h1.row.2.1, h2⟩
/-- A place and the log's error around it: what lies behind the error that Open answers. -/
structure AtLog (w : World) (a : Nat → Addr) (b : Nat) (k : Int) : Prop where
  pos : w.cell? ⟨b, 0, none⟩ = some (.int .i64 k)
  err : w.cell? ⟨b, 1, none⟩ = some (errV (a 7))
  lt : b < w.heap.size
theorem AtLog.below {w w' : World} {a : Nat → Addr} {b : Nat} {k : Int} (h : AtLog w a b k) (hb : Below w.heap.size w w') : AtLog w' a b k := ⟨(hb.cell (p := ⟨b, 0, none⟩) h.lt).trans h.pos, (hb.cell (p := ⟨b, 1, none⟩) h.lt).trans h.err, Nat.lt_of_lt_of_le h.lt hb.size⟩
theorem at_new (w : World) (a : Nat → Addr) (k : Int) : AtLog (w.alloc (.cells #[.int .i64 k, errV (a 7)] 178)) a w.heap.size k := by
  have e := heap_alloc_new w (.cells #[.int .i64 k, errV (a 7)] 178)
  exact ⟨(cell_row e 0).trans rfl, (cell_row e 1).trans rfl, lt_of_block e⟩
section
variable {w w' : World} {K L : Nat → Prop} {a : Nat → Addr} {l d : Nat} {vss : List (List (List Int))} {off : Bool} {fuse : Int} {F N : Nat} {base ep : Int} {ao : Option Addr} {c : Nat} {rs : List R} {D : Nat}
/-- The block can't be. -/
def badB (xs : List Int) (ep : Int) : Bool := decide (ansC xs ≠ 0) || (decide (0 < (ansR xs).length) && decide (ep ≤ ansN xs))
set_option maxRecDepth 100000 in
set_option maxHeartbeats 4000000 in
theorem wread_any (h : LogOf w K a l d vss false fuse F N base ep ao c rs D) (i : Nat) (hi : i < N) (xs : List Int) (hxs : xs = lastV (verL vss F i)) : Calls Tryz.prog 73 #[.pointer (some ⟨l, 0, none⟩), .int .i64 i] w fun e w' =>
    Below w.heap.size w w' ∧ (badB xs ep = true → ∃ b, e = .returned (.tuple #[.int .i64 0, .slice none 0 0, atV ⟨b, 0, none⟩]) ∧ AtLog w' a b i) ∧
    (badB xs ep = false → ∃ mo mk mc, e = .returned (.tuple #[.int .i64 (ansN xs), .slice mo mk mc, .nilIface]) ∧ (ansR xs).length = mk ∧ RecRow w' mo (ansR xs)) := by
  have hbd := h.bd
  have hsm := h.small
  have hfi : F + i < vss.length := by omega
  have hxb := h.disk.bytes hfi
  have hxv : lastV (vss.getD (F + i) []) = xs := hxs.symm
  rw [hxv] at hxb
  obtain ⟨sn, hsn⟩ : ∃ sn, sn = F + i := ⟨_, rfl⟩
  have hFi : (F : Int) + (i : Int) = (sn : Int) := by omega
  have hFw : IntKind.i64.wrap ((F : Int) + (i : Int)) = (sn : Int) := by rw [IntKind.wrap_i64]; omega
  have hSw : IntKind.i64.wrap (sn : Int) = (sn : Int) := by rw [IntKind.wrap_i64]; omega
  have HSN := hide hsn
  have HFI := hide hfi
  have HXV := hide hxv
  have HXB := hide hxb
  have HH := hide h
  have c0 := h.c0
  have c1 := h.c1
  have hep1 := hbd.2.1.1
  have hep2 := hbd.2.1.2
  clear hsn hfi hxv hxb h hxs hbd hsm
  go_enter Tryz.func73, Tryz.ntmps73
  go_wp2_with fail
  go_region_held3 (fun w' => w'.cell? ⟨l, 0, none⟩ = some (.pointer (some ⟨d, 0, none⟩)) ∧ w'.cell? ⟨l, 1, none⟩ = some (.int .i64 F)) (first | go_keep | (refine ⟨?_, ?_⟩ <;> assumption))
    (first
      | (go_at_call 124; refine (dread_ok d sn (by exact HH.out.disk.drew) (by rw [HSN.out]; exact HFI.out)).mono ?_; rintro e w1 ⟨g, cg, rfl, hg, hown, hlen, hbel⟩; rw [HSN.out, HXV.out] at hown; have hbel := of_drew hbel; have H1 := hide (HH.out.below hbel); have c0' := H1.out.c0; have c1' := H1.out.c1; have HO := hide hown; have HB1 := hide hbel; clear hown hbel hg hlen))
  clear c0 c1 c0' c1'
  go_wp2_with fail
  refine (read_uni (xs := xs) H1.out.errs.blk HO.out.row HXB.out.2 (by have := HO.out.le.1; rw [HXB.out.2] at this; exact this)).mono ?_
  rintro e w2 ⟨mo, mk, mc, fv, rfl, hmk, hrow, hcode, hb2⟩
  have H2 := hide (H1.out.below hb2)
  have HB2 := hide (over HB1.out hb2 HB1.out.size)
  have hmk6 : mk ≤ 6 := by rw [← hmk]; exact ansR_le xs
  have HROW := hide hrow
  have HMK := hide hmk
  obtain ⟨E, hE⟩ : ∃ E, E = ansN xs := ⟨_, rfl⟩
  have hEb := ansN_bd xs
  rw [← hE] at hEb ⊢
  obtain ⟨hE0, hE1⟩ := hEb
  have HE := hide hE
  have c4 := H2.out.c4
  have hE7 := (H2.out.errs 7 (by decide)).2
  unfold errV at hE7
  rw [show gno 7 = 4 from rfl] at hE7
  clear hE hrow hmk hb2
  rcases hcode with ⟨rfl, hc0⟩ | ⟨j, hj, rfl, hcd⟩
  · by_cases hm : 0 < mk
    · have hmi : (0 : Int) < (mk : Int) := by omega
      by_cases hee : ep ≤ E
      · have HBAD : Hid (badB xs ep = true) := by
          show badB xs ep = true
          unfold badB
          rw [HMK.out, ← HE.out]
          simp [hm, hee]
        clear hc0
        go_wp2_with fail
        go_region_held3 (fun w' => w'.cell? ⟨4, 0, none⟩ = some (.iface 237 (.pointer (some (a 7))))) (first | go_keep | assumption) (fail)
        go_wp2_with fail
        go_ret3
        exact ⟨below_drew (over HB2.out (below_box _ _) HB2.out.size), fun _ => ⟨w2.heap.size, rfl, (at_new w2 a i).below (below_drew (Below.refl _ _))⟩, fun hh => absurd (HBAD.out.symm.trans hh) (by simp)⟩
      · have hed : decide (ep ≤ E) = false := by simpa using hee
        have HBAD : Hid (badB xs ep = false) := by
          show badB xs ep = false
          unfold badB
          rw [HMK.out, ← HE.out, hc0]
          simp [hed]
        clear hc0
        go_wp2_with fail
        go_ret3
        exact ⟨HB2.out, fun hh => absurd (HBAD.out.symm.trans hh) (by simp), fun _ => ⟨mo, mk, mc, by rw [← HE.out]; rfl, HMK.out, HROW.out⟩⟩
    · have hmi : decide ((0 : Int) < (mk : Int)) = false := by simp; omega
      have HBAD : Hid (badB xs ep = false) := by
        show badB xs ep = false
        unfold badB
        rw [HMK.out, ← HE.out, hc0]
        simp [hm]
      clear hc0
      go_wp2_with fail
      go_ret3
      exact ⟨HB2.out, fun hh => absurd (HBAD.out.symm.trans hh) (by simp), fun _ => ⟨mo, mk, mc, by rw [← HE.out]; rfl, HMK.out, HROW.out⟩⟩
  · have HBAD : Hid (badB xs ep = true) := by
      show badB xs ep = true
      unfold badB
      rw [hcd]
      simp
      omega
    clear hcd
    unfold errV
    go_wp2_with fail
    go_region_held3 (fun w' => w'.cell? ⟨4, 0, none⟩ = some (.iface 237 (.pointer (some (a 7))))) (first | go_keep | assumption) (fail)
    go_wp2_with fail
    go_ret3
    exact ⟨below_drew (over HB2.out (below_box _ _) HB2.out.size), fun _ => ⟨w2.heap.size, rfl, (at_new w2 a i).below (below_drew (Below.refl _ _))⟩, fun hh => absurd (HBAD.out.symm.trans hh) (by simp)⟩
end
end Go.Proofs.YtjacenhblclkaaaGreatDoor

/- What wal.Open answers of whatever disk. -/
namespace Go.Proofs.YtjacenhblclkaaaGreatDoor
open Go.RowKit
set_option linter.unusedVariables false

theorem wpList_append_run {P : Program} {w : World} {ops : Array Oper} {rest : List Oper} {o : Oper} {a : Act} {Q : Exit → Act → World → Prop} (hgd : o.guard = none) (s x : Operand) (t : TypeId) (ho : o.op = .call { callee := .builtin .append, args := #[s, x], argTypes := #[t, t] }) (vs vx : Value) (hs : a.eval s = vs) (hx : a.eval x = vx)
    {v' : Value} {w' : World} (hr : (Builtin.append_ #[t, t] o.type #[vs, vx]).run P w = .ok v' w') (h : wpList P ops Q rest (a.put o.dst v') w') : wpList P ops Q (o :: rest) a w :=
  wpList_plain hgd fun _ hK => by
    unfold Oper.wp execOp
    simp only [ho, resolve, invoke, builtin, Sem.run_bind, Sem.run_pure, Result.andThen_ok, List.map_toArray, List.map_cons, List.map_nil, hs, hx, hr]
    exact hK _ _ h
/-- What is read of block k. -/
def rdL (vss : List (List (List Int))) (F k : Nat) : List Int := lastV (verL vss F k)
theorem badB_iff (xs : List Int) (ep : Int) : badB xs ep = true ↔ ansC xs ≠ 0 ∨ (0 < (ansR xs).length ∧ ep ≤ ansN xs) := by simp [badB]
theorem badB_not (xs : List Int) (ep : Int) : badB xs ep = false ↔ ansC xs = 0 ∧ ((ansR xs).length = 0 ∨ ansN xs < ep) := by
  rw [← Bool.not_eq_true, badB_iff]
  constructor
  · intro h
    refine ⟨?_, ?_⟩
    · by_cases h1 : ansC xs = 0
      · exact h1
      · exact absurd (.inl h1) h
    · by_cases h1 : (ansR xs).length = 0
      · exact .inl h1
      · refine .inr ?_
        by_cases h2 : ansN xs < ep
        · exact h2
        · exact absurd (.inr ⟨by omega, by omega⟩) h
  · rintro ⟨h1, h2⟩ (h3 | ⟨h3, h4⟩)
    · exact h3 h1
    · omega
section
variable {rd : Nat → List Int} {ep least : Int} {n k : Nat} {acc : List R}
theorem openUp_bad (h : badB (rd k) ep = true) : openUp rd ep (n + 1) k least acc = ([], (k : Int)) := by
  rw [openUp]
  rcases (badB_iff _ _).1 h with h1 | ⟨h1, h2⟩
  · rw [if_pos h1]
  · by_cases h3 : ansC (rd k) ≠ 0
    · rw [if_pos h3]
    · rw [if_neg h3, if_neg (by omega), if_pos h2]
theorem openUp_end (h : badB (rd k) ep = false) (h2 : (ansR (rd k)).length = 0 ∨ ansN (rd k) < least) : openUp rd ep (n + 1) k least acc = (acc, -1) := by
  obtain ⟨h3, h4⟩ := (badB_not _ _).1 h
  rw [openUp, if_neg (by simpa using h3)]
  by_cases h5 : (ansR (rd k)).length = 0
  · rw [if_pos h5]
  · rw [if_neg h5, if_neg (by omega), if_pos (by omega)]
theorem openUp_part (h : badB (rd k) ep = false) (h2 : ¬ (ansR (rd k)).length = 0) (h5 : ¬ ansN (rd k) < least) (h6 : (ansR (rd k)).length < 6) : openUp rd ep (n + 1) k least acc = (acc ++ ansR (rd k), -1) := by
  obtain ⟨h3, h4⟩ := (badB_not _ _).1 h
  rw [openUp, if_neg (by simpa using h3), if_neg h2, if_neg (by omega), if_neg h5, if_pos h6]
theorem openUp_full (h : badB (rd k) ep = false) (h2 : ¬ (ansR (rd k)).length = 0) (h5 : ¬ ansN (rd k) < least) (h6 : ¬ (ansR (rd k)).length < 6) : openUp rd ep (n + 1) k least acc = openUp rd ep n (k + 1) (ansN (rd k)) (acc ++ ansR (rd k)) := by
  obtain ⟨h3, h4⟩ := (badB_not _ _).1 h
  rw [openUp, if_neg (by simpa using h3), if_neg h2, if_neg (by omega), if_neg h5, if_neg h6]
end
section
variable {w w' : World} {K L : Nat → Prop} {a : Nat → Addr} {l d : Nat} {vss : List (List (List Int))} {off : Bool} {fuse : Int} {F N : Nat} {base ep : Int} {ao : Option Addr} {c : Nat} {rs : List R} {D : Nat}
/-- Many records are appended: what the builtin does, and the log behind it. -/
theorem append_many (h : LogOf w K a l d vss off fuse F N base ep ao c rs D) (n m : Nat) (hn : rs.length = n) (ts : List R) (hm : ts.length = m) {mo : Option Addr} {mc : Nat} (hrow : RecRow w mo ts) (h0 : 0 < m) (hg : ∀ r ∈ ts, goodB r = true ∧ r.fits) (hroom : n + m ≤ 6 * N) (hb : base + (n : Int) + m ≤ 1073741824) (ty : TypeId) :
    ∃ ao' c' w1, (Builtin.append_ #[103, 103] ty #[.slice ao n c, .slice mo m mc]).run Tryz.prog w = .ok (.slice ao' (n + m) c') w1 ∧ w1.cell? ⟨l, 5, none⟩ = some (.slice ao n c) ∧ w1.frozen? ⟨l, 5, none⟩ = false ∧
      LogOf (w1.setCell ⟨l, 5, none⟩ (.slice ao' (n + m) c')) K a l d vss off fuse F N base ep ao' c' (rs ++ ts) D ∧ Kept K w (w1.setCell ⟨l, 5, none⟩ (.slice ao' (n + m) c')) := by
  subst hn; subst hm
  have hsm := h.small
  obtain ⟨b, o, rfl, hc⟩ := hrow.2 h0
  obtain ⟨ao', c', w1, hr, ho, hgr, hbw, hat⟩ := run_appendR (yc := mc) h.own rfl rfl (by omega) (Nat.zero_le _) hc ty
  have hln : (rs ++ ts).length = rs.length + ts.length := List.length_append
  have hg2 := h.grown (ts := ts) ho hgr (by rw [hln]; exact hat) (by rw [hln]; push_cast; omega) (by rw [hln]; exact hroom) hg
  rw [hln] at hg2
  have hl1 := lt_of_block h.head
  have e : w1.heap[l]? = _ := (hgr.block l hl1 (fun e => h.ne e.symm rfl)).trans h.head
  exact ⟨ao', c', w1, hr, (cell_row e 5).trans rfl, frozen_row e 5, hg2.1, hg2.2⟩
/-- What Open answers. -/
def openPost (w : World) (K : Nat → Prop) (a : Nat → Addr) (d : Nat) (vss : List (List (List Int))) (fuse : Int) (F N : Nat) (base ep : Int) (G : List R × Int) (v : Value) (w' : World) : Prop :=
  (G.2 = -1 ∧ ∃ l, v = .tuple #[.pointer (some ⟨l, 0, none⟩), .nilIface] ∧ Log w' K a l d vss false fuse F N base ep G.1 G.1.length) ∨ (0 ≤ G.2 ∧ ∃ b, v = .tuple #[.pointer none, atV ⟨b, 0, none⟩] ∧ AtLog w' a b G.2 ∧ Disk w' K a d vss false fuse)
set_option maxRecDepth 100000 in
set_option maxHeartbeats 4000000 in
theorem wopen_any (h : Disk w K a d vss false fuse) (he : ErrsK w K a) (reset : Int) (hb : 0 ≤ base ∧ base + 6 * (N : Int) ≤ 1073741824) (hep : 1 ≤ ep ∧ ep ≤ 1073741824) (hF : F + N ≤ vss.length) (hN : N ≤ 100) :
    Calls Tryz.prog 22 #[.pointer (some ⟨d, 0, none⟩), .int .i64 F, .int .i64 N, .int .i64 base, .int .i64 reset, .int .i64 ep] w fun e w' => ∃ v, e = .returned v ∧ openPost w K a d vss fuse F N base ep (openUp (rdL vss F) ep N 0 reset []) v w' ∧ Kept K w w' := by
  obtain ⟨G, hG⟩ : ∃ G, openUp (rdL vss F) ep N 0 reset [] = G := ⟨_, rfl⟩
  rw [hG]
  have HNEW := hide (log_new h he ⟨hb.1, by omega⟩ hep hF hN)
  have HB0 := hide ((Below.refl w.heap.size w).alloc (Nat.le_refl _) (.cells (logCells d F N base ep (.slice none 0 0) 0) 114))
  have HK0 := hide (Kept.of_below HB0.out h.low)
  have HG := hide hG
  have HBS := hide hb
  have HFN := hide hF
  clear h he hb hep hF hG
  go_enter Tryz.func22, Tryz.ntmps22
  go_wp2_with fail
  refine (wnew_any d F N base ep w (by omega)).mono ?_
  rintro e w0 ⟨rfl, hw0⟩
  rw [← hw0] at HNEW HB0 HK0
  obtain ⟨l, hl⟩ : ∃ l, l = w.heap.size := ⟨_, rfl⟩
  rw [← hl] at HNEW ⊢
  have c2 := HNEW.out.c2
  clear hw0 hl
  go_wp2_with fail
  go_loopw [15, 31] (fun ls i wr => ∃ (k n : Nat) (least : Int) (rs : List R) (ao : Option Addr) (c : Nat), i = .int .i64 k ∧ k ≤ N ∧ ls = .int .i64 least ∧ openUp (rdL vss F) ep (N - k) k least rs = G ∧ rs.length = n ∧ n ≤ 6 * k ∧ LogOf wr K a l d vss false fuse F N base ep ao c rs 0 ∧ Kept K w wr) (fun _ i _ => N - (intOf i).toNat)
  case atStart => exact ⟨0, 0, reset, [], none, 0, rfl, by omega, rfl, HG.out, rfl, by omega, HNEW.out, HK0.out⟩
  case round =>
    clear HNEW HB0 HK0 c2
    obtain ⟨k, n, least, rs, ao, c, rfl, hk, rfl, hop, hn, hn6, hlog, hkept⟩ := hrel
    have HL := hide hlog
    have HK := hide hkept
    have HOP := hide hop
    have HN := hide hn
    clear hlog hkept hop hn
    by_cases hlt : k < N
    · have hki : (k : Int) < (N : Int) := by omega
      go_wp2_with fail
      refine (wread_any HL.out k hlt (rdL vss F k) rfl).mono ?_
      rintro e w1 ⟨hb1, hbad, hok⟩
      have hm1 : N - k = (N - k - 1) + 1 := by omega
      have HL1 := hide (HL.out.below hb1)
      have HK1 := hide (HK.out.trans (Kept.of_below hb1 HL.out.low))
      have hop := HOP.out
      rw [hm1] at hop
      have hgood := ansR_good (HL.out.disk.bytes (k := F + k) (by have := HFN.out; omega)).1
      have hg2 : ∀ r ∈ ansR (rdL vss F k), goodB r = true ∧ r.fits := hgood
      have HGD := hide hg2
      clear hgood hg2 hb1
      cases hbb : badB (rdL vss F k) ep with
      | true =>
        obtain ⟨b, rfl, hat⟩ := hbad hbb
        rw [openUp_bad hbb] at hop
        have HGG : Hid (G = ([], (k : Int))) := hop.symm
        have HAT := hide hat
        have HDK := hide (HL1.out.disk.narrow (K := K) (fun k hk => .inl hk) HL1.out.errs)
        clear hop hat hbad hok hbb hm1
        unfold atV
        go_wp2_with fail
        go_ret2
        exact ⟨_, rfl, .inr ⟨by rw [HGG.out]; exact Int.natCast_nonneg k, b, rfl, by rw [HGG.out]; exact HAT.out, HDK.out⟩, HK1.out⟩
      | false =>
        obtain ⟨mo, mk, mc, rfl, hmk, hrow⟩ := hok hbb
        have HMK := hide hmk
        have HROW := hide hrow
        have HBB := hide hbb
        have HOP2 := hide hop
        have hmk6 : mk ≤ 6 := by rw [← hmk]; exact ansR_le _
        obtain ⟨E, hE⟩ : ∃ E, E = ansN (rdL vss F k) := ⟨_, rfl⟩
        have hEb := ansN_bd (rdL vss F k)
        rw [← hE] at hEb ⊢
        have HE := hide hE
        clear hop hrow hmk hbad hok hbb hm1 hE
        by_cases hend : mk = 0 ∨ E < least
        · have HGG : Hid (G = (rs, -1)) := by
            show G = (rs, -1)
            rw [← HOP2.out]
            exact openUp_end HBB.out (by rw [HMK.out, ← HE.out]; exact hend)
          have c5 := HL1.out.c5 HN.out
          have c6 := HL1.out.c6
          have f6 := HL1.out.fz 6
          have HSD := hide (HL1.out.setDone n (by rw [HN.out]; exact Nat.le_refl _))
          by_cases hz : mk = 0
          · subst hz
            clear hend
            go_wp2_with fail
            go_ret2
            exact ⟨_, rfl, .inl ⟨by rw [HGG.out], l, rfl, ao, c, by rw [HGG.out, HN.out]; exact HSD.out.1⟩, HK1.out.trans HSD.out.2⟩
          · have hzi : ((mk : Int) == 0) = false := by simp; omega
            have hel : E < least := by omega
            clear hend
            go_wp2_with fail
            go_ret2
            exact ⟨_, rfl, .inl ⟨by rw [HGG.out], l, rfl, ao, c, by rw [HGG.out, HN.out]; exact HSD.out.1⟩, HK1.out.trans HSD.out.2⟩
        · have hz : ¬ mk = 0 := fun h => hend (.inl h)
          have hel : ¬ E < least := fun h => hend (.inr h)
          have hzi : ((mk : Int) == 0) = false := by simp; omega
          have held : decide (E < least) = false := by simpa using hel
          have hfn := HFN.out
          have hbs := HBS.out
          obtain ⟨ao', c', w3, hrun, hc3, hf3, hlog, hkept⟩ := append_many (mc := mc) HL1.out n mk HN.out _ HMK.out HROW.out (by omega) HGD.out (by omega) (by omega) 103
          have HRUN := hide hrun
          have HL3 := hide hlog
          have HK3 := hide (HK1.out.trans hkept)
          have HN3 : Hid ((rs ++ ansR (rdL vss F k)).length = n + mk) := by show _ = _; rw [List.length_append, HN.out, HMK.out]
          have c5 := HL1.out.c5 HN.out
          clear hrun hlog hkept hend hfn hbs
          by_cases h6 : mk < 6
          · have h6i : (mk : Int) < 6 := by omega
            have HGG : Hid (G = (rs ++ ansR (rdL vss F k), -1)) := by
              show G = _
              rw [← HOP2.out]
              exact openUp_part HBB.out (by rw [HMK.out]; exact hz) (by rw [← HE.out]; exact hel) (by rw [HMK.out]; exact h6)
            have c5' := HL3.out.c5 HN3.out
            have c6' := HL3.out.c6
            have f6' := HL3.out.fz 6
            have hsd := HL3.out.setDone (n + mk) (by rw [HN3.out]; exact Nat.le_refl _)
            rw [Int.natCast_add] at hsd
            have HSD := hide hsd
            clear hsd
            go_wp2_with (at_builtin; refine wpList_append_run (by rfl) (.tmp 56) (.tmp 57) 103 (by rfl) _ _ (by rfl) (by rfl) HRUN.out ?_)
            go_ret2
            exact ⟨_, rfl, .inl ⟨by rw [HGG.out], l, rfl, ao', c', by rw [HGG.out, HN3.out]; exact HSD.out.1⟩, HK3.out.trans HSD.out.2⟩
          · have h6i : decide ((mk : Int) < 6) = false := by simp; omega
            have h66 : mk = 6 := by omega
            subst h66
            have HGG : Hid (openUp (rdL vss F) ep (N - k - 1) (k + 1) E (rs ++ ansR (rdL vss F k)) = G) := by
              show _ = G
              rw [← HOP2.out, openUp_full HBB.out (by rw [HMK.out]; exact hz) (by rw [← HE.out]; exact hel) (by rw [HMK.out]; exact h6), HE.out]
            go_wp2_with (at_builtin; refine wpList_append_run (by rfl) (.tmp 56) (.tmp 57) 103 (by rfl) _ _ (by rfl) (by rfl) HRUN.out ?_)
            go_roundw
            case rel => exact ⟨k + 1, n + 6, E, _, ao', c', by go_num, by omega, rfl, by rw [show N - (k + 1) = N - k - 1 by omega]; exact HGG.out, HN3.out, by omega, HL3.out, HK3.out⟩
            case measure => simp [intOf]; omega
    · have hki : decide ((k : Int) < (N : Int)) = false := by simp; omega
      have hkN : k = N := by omega
      have hGG : G = (rs, -1) := by have := HOP.out; rw [hkN, Nat.sub_self] at this; exact this.symm
      have HGG := hide hGG
      have c5 := HL.out.c5 HN.out
      have c6 := HL.out.c6
      have f6 := HL.out.fz 6
      have HSD := hide (HL.out.setDone n (by rw [HN.out]; exact Nat.le_refl _))
      clear hkN hGG
      go_wp2_with fail
      go_ret2
      exact ⟨_, rfl, .inl ⟨by rw [HGG.out], l, rfl, ao, c, by rw [HGG.out, HN.out]; exact HSD.out.1⟩, HK.out.trans HSD.out.2⟩
end
end Go.Proofs.YtjacenhblclkaaaGreatDoor

/- The chapter's examples on logs, as the statements ask them first: they hold, and nothing that was there is written. A disk and a log on it, made. -/
namespace Go.Proofs.YtjacenhblclkaaaGreatDoor
open Go.RowKit
set_option linter.unusedVariables false

/-- What is ahead of block B. -/
def ahead (B k : Nat) : Prop := k < B
theorem errs_ahead {w : World} {ks : List Nat} {a : Nat → Addr} (h : ErrsOf w ks a) (hs : ∀ i ∈ seven, i ∈ ks) : ErrsK w (ahead w.heap.size) a := h.errsK hs fun k hk => hk
theorem errs_three {w : World} {ks : List Nat} {a : Nat → Addr} (h : ErrsOf w ks a) (hs : ∀ i ∈ seven, i ∈ ks) : Errs w (fun b => b < w.heap.size) a := (errs_ahead h hs).three
theorem seven18 : ∀ i ∈ seven, i ∈ all18 := by decide
theorem seven7 : ∀ i ∈ seven, i ∈ [0, 1, 2, 3, 4, 7, 8] := by decide
section
variable {w w' : World} {K L : Nat → Prop} {a : Nat → Addr} {l d : Nat} {vss : List (List (List Int))} {off : Bool} {fuse : Int} {F N : Nat} {base ep : Int} {rs : List R} {D : Nat}
theorem Log.drewN (h : Log w K a l d vss off fuse F N base ep rs D) (n : Nat) : Log (w.drewN n) K a l d vss off fuse F N base ep rs D := by obtain ⟨ao, c, h⟩ := h; exact ⟨ao, c, h.drewN n⟩
theorem Log.below (h : Log w K a l d vss off fuse F N base ep rs D) (hb : Below w.heap.size w w') : Log w' K a l d vss off fuse F N base ep rs D := by obtain ⟨ao, c, h⟩ := h; exact ⟨ao, c, h.below hb⟩
theorem Log.low (h : Log w K a l d vss off fuse F N base ep rs D) : ∀ k, K k → k < w.heap.size := by obtain ⟨ao, c, h⟩ := h; exact h.low
theorem Log.widen (h : Log w K a l d vss off fuse F N base ep rs D) (hb : Below w.heap.size w w') : Log w' (wider K w.heap.size w'.heap.size) a l d vss off fuse F N base ep rs D := by obtain ⟨ao, c, h⟩ := h; exact ⟨ao, c, h.widen hb⟩
theorem Log.stays (h : Log w K a l d vss off fuse F N base ep rs D) (hs : w.heap.size ≤ w'.heap.size) (hold : ∀ k, k < w.heap.size → ¬ K k → w'.heap[k]? = w.heap[k]?) (hL : ∀ k, L k → k < w'.heap.size ∧ (k < w.heap.size → K k)) (he : ErrsK w' L a) : Log w' L a l d vss off fuse F N base ep rs D := by obtain ⟨ao, c, h⟩ := h; exact ⟨ao, c, h.stays hs hold hL he⟩
theorem Log.errs (h : Log w K a l d vss off fuse F N base ep rs D) : ErrsK w K a := by obtain ⟨ao, c, h⟩ := h; exact h.errs
theorem Log.kept (h : Log w K a l d vss off fuse F N base ep rs D) (hb : Below w.heap.size w w') : Kept K w w' := Kept.of_below hb h.low
/-- The log's disk, by itself. -/
theorem Log.disk (h : Log w K a l d vss off fuse F N base ep rs D) : Disk w K a d vss off fuse := by obtain ⟨ao, c, h⟩ := h; exact h.disk.narrow (fun k hk => .inl hk) h.errs
end
/-- A disk is made, and a log on it. -/
theorem log_made {w w1 : World} {ks : List Nat} {a : Nat → Addr} {d n F N : Nat} {base ep : Int} (he : ErrsOf w ks a) (hs : ∀ i ∈ seven, i ∈ ks) (hd : Disk w1 (fun b => b < w.heap.size) a d (List.replicate n [fillOf 0]) false (-1)) (hb : Below w.heap.size w w1) (h0 : 0 ≤ base ∧ base ≤ 1073741824) (hep : 1 ≤ ep ∧ ep ≤ 1073741824) (hF : F + N ≤ n) (hN : N ≤ 100) :
    Log (w1.alloc (.cells (logCells d F N base ep (.slice none 0 0) 0) 114)) (ahead w.heap.size) a w1.heap.size d (List.replicate n [fillOf 0]) false (-1) F N base ep [] 0 ∧ Below w.heap.size w (w1.alloc (.cells (logCells d F N base ep (.slice none 0 0) 0) 114)) :=
  ⟨⟨none, 0, log_new hd ((errs_ahead he hs).kept (Kept.of_below hb fun k hk => hk)) h0 hep (by rw [List.length_replicate]; exact hF) hN⟩, over hb (below_box _ _) hb.size⟩
set_option maxRecDepth 100000 in
set_option maxHeartbeats 1000000 in
theorem wfirst_any (w : World) {ks : List Nat} {a : Nat → Addr} (he : ErrsOf w ks a) (hs : ∀ i ∈ seven, i ∈ ks) : Calls Tryz.prog 5 #[] w fun e w' => e = .returned (.bool true) ∧ Below w.heap.size w w' := by
  have HE := hide he
  have HS := hide hs
  clear he hs
  go_enter Tryz.func5, Tryz.ntmps5
  go_wp2_with fail
  refine (new_any 5 5 (.inr (.inl ⟨by omega, by omega, rfl⟩)) (errs_three HE.out HS.out)).mono ?_
  rintro e w1 ⟨d, rfl, hd, hdisk, hbel⟩
  have HM := hide (log_made (F := 1) (N := 2) (base := 7) (ep := 1) HE.out HS.out hdisk hbel (by omega) (by omega) (by omega) (by omega))
  clear hdisk hbel hd
  go_wp2_with fail
  refine (wnew_any d 1 2 7 1 w1 (by omega)).mono ?_
  rintro e w2 ⟨rfl, rfl⟩
  obtain ⟨W, hW⟩ : ∃ W, W = w1.alloc (.cells (logCells d 1 2 7 1 (.slice none 0 0) 0) 114) := ⟨_, rfl⟩
  rw [← hW] at HM ⊢
  obtain ⟨l, hl⟩ : ∃ l, l = w1.heap.size := ⟨_, rfl⟩
  rw [← hl] at HM ⊢
  clear hW hl
  go_wp2_with fail
  refine (wlast_any HM.out.1 0 rfl).mono ?_
  rintro e w3 ⟨rfl, m, rfl⟩
  go_wp2_with fail
  refine (wdone_any (HM.out.1.drewN m)).mono ?_
  rintro e w3 ⟨rfl, m2, rfl⟩
  go_wp2_with fail
  refine (wbase_any (HM.out.1.drewN _)).mono ?_
  rintro e w3 ⟨rfl, rfl⟩
  go_wp2_with fail
  refine (wroom_any (HM.out.1.drewN _) 0 rfl).mono ?_
  rintro e w3 ⟨rfl, m3, rfl⟩
  rw [show roomI 2 0 7 = 12 from rfl]
  go_wp2_with fail
  go_ret
  exact ⟨rfl, below_drewN HM.out.2 _⟩
end Go.Proofs.YtjacenhblclkaaaGreatDoor

/- Logs beside a source of numbers and other memory: what stays of which. -/
namespace Go.Proofs.YtjacenhblclkaaaGreatDoor
open Go.RowKit
set_option linter.unusedVariables false

theorem seq_of {w x : World} {lo : Option Addr} {len cap : Nat} {zs : List Int} {s n : Nat} (h : IsRow .i64 w lo len cap zs) (hl : len ≤ 500) (hb : Below w.heap.size w x) (hs : w.heap.size ≤ s) (hn : n ≤ 1000) (hlies : x.heap[s]? = some (.cells #[.slice lo len cap, .int .i64 n] 35 (0, 0))) : SeqAt x s lo len cap zs n := by
  have h0 := seq_new5 h hl (Below.refl _ _)
  refine ⟨hlies, fun i hi => ?_, hn, hl⟩
  obtain ⟨b, off, e, hlt, hc⟩ := h0.row i hi
  refine ⟨b, off, e, by omega, ?_⟩
  have hc' : w.cell? ⟨b, off + i, none⟩ = some (.int .i64 (zs.getD i 0)) := by
    rw [← hc]
    exact (((Below.refl w.heap.size w).alloc (Nat.le_refl _) (seqCells lo len cap)).cell (p := ⟨b, off + i, none⟩) hlt).symm
  exact (hb.cell (p := ⟨b, off + i, none⟩) hlt).trans hc'
theorem SeqAt.kept {w x y : World} {K : Nat → Prop} {lo : Option Addr} {len cap : Nat} {zs : List Int} {s n : Nat} (h : SeqAt x s lo len cap zs n) (h0 : IsRow .i64 w lo len cap zs) (hk : Kept K x y) (hK : K s) (hb : Below w.heap.size w y) (hs : w.heap.size ≤ s) : SeqAt y s lo len cap zs n :=
  seq_of h0 h.small.2 hb hs h.small.1 (by rw [hk.block s hK]; exact h.lies)
theorem SeqAt.step {x y : World} {lo : Option Addr} {len cap : Nat} {zs : List Int} {s n : Nat} (h : SeqAt x s lo len cap zs n) (hb : Below x.heap.size x y) : SeqAt y s lo len cap zs n := h.under hb (lt_of_block h.lies)
theorem ErrsK.narrow {w : World} {K L : Nat → Prop} {a : Nat → Addr} (h : ErrsK w L a) (hK : ∀ i ∈ seven, K (gno i)) : ErrsK w K a := fun i hi => ⟨hK i hi, (h i hi).2⟩
theorem Cells10.kept {w w' : World} {K : Nat → Prop} {B : Nat} {r : R} (h : Cells10 w B r) (hk : Kept K w w') (hK : K B) : Cells10 w' B r := by
  obtain ⟨k0, k1, k2, k3, k4, k5, k6, k7, k8, k9, kl⟩ := h
  have e : ∀ j, w'.cell? ⟨B, j, none⟩ = w.cell? ⟨B, j, none⟩ := fun j => hk.cell (p := ⟨B, j, none⟩) hK
  exact ⟨(e 0).trans k0, (e 1).trans k1, (e 2).trans k2, (e 3).trans k3, (e 4).trans k4, (e 5).trans k5, (e 6).trans k6, (e 7).trans k7, (e 8).trans k8, (e 9).trans k9, Nat.lt_of_lt_of_le kl hk.size⟩
section
variable {w w' : World} {K L : Nat → Prop} {a : Nat → Addr} {l d : Nat} {vss : List (List (List Int))} {off : Bool} {fuse : Int} {F N : Nat} {base ep : Int} {rs : List R} {D : Nat}
theorem Log.narrow (h : Log w L a l d vss off fuse F N base ep rs D) (hK : ∀ k, K k → L k) (he : ∀ i ∈ seven, K (gno i)) : Log w K a l d vss off fuse F N base ep rs D :=
  h.stays (Nat.le_refl _) (fun _ _ _ => rfl) (fun k hk => ⟨h.low k (hK k hk), fun _ => hK k hk⟩) (h.errs.narrow he)
/-- The source of numbers turns, and new memory is made: the log stays. -/
theorem Log.but (h : Log w K a l d vss off fuse F N base ep rs D) {s : Nat} (hs : K s) (hne : ∀ i ∈ seven, gno i ≠ s) (hb : But s w w') : Log w' K a l d vss off fuse F N base ep rs D :=
  h.stays hb.size (fun k hk hn => hb.block k hk fun e => hn (e ▸ hs)) (fun k hk => ⟨Nat.lt_of_lt_of_le (h.low k hk) hb.size, fun _ => hk⟩) fun i hi => ⟨(h.errs i hi).1, by
    rw [← (h.errs i hi).2]
    exact World.cell?_of_block (w := w) (hb.block _ (h.low _ (h.errs i hi).1) (hne i hi))⟩
end
/-- What is ahead of B, and block s. -/
def aheadAnd (B s k : Nat) : Prop := k < B ∨ k = s
theorem gno_lt {w : World} {ks : List Nat} {a : Nat → Addr} (h : ErrsOf w ks a) (hs : ∀ i ∈ seven, i ∈ ks) : ∀ i ∈ seven, gno i < w.heap.size := fun i hi => World.block_lt_of_cell? w _ (h.cell i (hs i hi))
theorem gno_ne {w : World} {ks : List Nat} {a : Nat → Addr} (h : ErrsOf w ks a) (hs : ∀ i ∈ seven, i ∈ ks) {s : Nat} (hws : w.heap.size ≤ s) : ∀ i ∈ seven, gno i ≠ s := fun i hi => by have := gno_lt h hs i hi; omega
/-- A log that was made, and then a source of numbers. -/
theorem log_seq {w : World} {B : Nat} {a : Nat → Addr} {l d : Nat} {vss : List (List (List Int))} {off : Bool} {fuse : Int} {F N : Nat} {base ep : Int} {rs : List R} {D : Nat} (h : Log w (ahead B) a l d vss off fuse F N base ep rs D) (x : Obj) : Log (w.alloc x) (aheadAnd B w.heap.size) a l d vss off fuse F N base ep rs D := by
  have hb := (Below.refl w.heap.size w).alloc (Nat.le_refl _) x
  refine (h.widen hb).narrow (fun k hk => ?_) fun i hi => .inl (h.errs i hi).1
  rcases hk with h1 | h1
  · exact .inl h1
  · exact .inr ⟨by omega, by rw [h1]; simp⟩
end Go.Proofs.YtjacenhblclkaaaGreatDoor

/- A list of records kept beside a log: each stays while the other turns. -/
namespace Go.Proofs.YtjacenhblclkaaaGreatDoor
open Go.RowKit
set_option linter.unusedVariables false

theorem OwnR.of_block {w w' : World} {B : Nat} {ao : Option Addr} {cap : Nat} {rs : List R} (h : OwnR w B ao cap rs) (hb : ∀ g, (Value.slice ao rs.length cap).ownBlock = some g → g < w.heap.size → w'.heap[g]? = w.heap[g]?) : OwnR w' B ao cap rs := ⟨owns_of_block h.1 hb, h.2⟩
/-- A list of our own, whose block K names; K names all that was there at first. -/
structure Side (w0 w : World) (K : Nat → Prop) (ao : Option Addr) (c : Nat) (ts : List R) : Prop where
  own : OwnR w w0.heap.size ao c ts
  at_ : ∀ g, (Value.slice ao ts.length c).ownBlock = some g → K g
  old : ∀ k, k < w0.heap.size → K k
  bel : Below w0.heap.size w0 w
  err : ∀ i ∈ seven, gno i < w0.heap.size
section
variable {w0 w w' : World} {K L : Nat → Prop} {ao : Option Addr} {c : Nat} {ts : List R}
theorem Side.kept (h : Side w0 w K ao c ts) (hk : Kept K w w') : Side w0 w' K ao c ts :=
  ⟨h.own.of_block fun g hg _ => hk.block g (h.at_ g hg), h.at_, h.old, h.bel.trans (hk.below h.old), h.err⟩
theorem Side.below (h : Side w0 w K ao c ts) (hb : Below w.heap.size w w') : Side w0 w' K ao c ts :=
  ⟨h.own.below hb (Nat.le_refl _), h.at_, h.old, over h.bel hb h.bel.size, h.err⟩
theorem Side.wide (h : Side w0 w K ao c ts) (hL : ∀ k, K k → L k) : Side w0 w L ao c ts := ⟨h.own, fun g hg => hL g (h.at_ g hg), fun k hk => hL k (h.old k hk), h.bel, h.err⟩
theorem Side.drewN (h : Side w0 w K ao c ts) (n : Nat) : Side w0 (w.drewN n) K ao c ts := h.below (below_drewN (Below.refl _ _) n)
theorem Side.nil (h : Below w0.heap.size w0 w) (hK : ∀ k, k < w0.heap.size → K k) (he : ∀ i ∈ seven, gno i < w0.heap.size) : Side w0 w K none 0 [] := ⟨ownR_nil _ _, fun g hg => by simp [Value.ownBlock] at hg, hK, h, he⟩
end
section
variable {w0 w w' : World} {K L : Nat → Prop} {a : Nat → Addr} {l d : Nat} {vss : List (List (List Int))} {off : Bool} {fuse : Int} {F N : Nat} {base ep : Int} {rs : List R} {D : Nat} {ao : Option Addr} {c : Nat} {ts : List R}
theorem Log.wide (h : Log w K a l d vss off fuse F N base ep rs D) (hb : Below w.heap.size w w') : ∃ L, (∀ k, K k → L k) ∧ (∀ k, w.heap.size ≤ k → k < w'.heap.size → L k) ∧ Log w' L a l d vss off fuse F N base ep rs D :=
  ⟨_, fun k hk => .inl hk, fun k h1 h2 => .inr ⟨h1, h2⟩, h.widen hb⟩
/-- One record is appended to the list beside the log. -/
theorem side_append (hL : Log w K a l d vss off fuse F N base ep rs D) (hS : Side w0 w K ao c ts) (n : Nat) (hn : ts.length = n) (hs : n ≤ 900) (r : R) (ty : TypeId) :
    ∃ ao' c' w1 L, (Builtin.append_ #[103, 103] ty #[.slice ao n c, .slice (some ⟨w.heap.size, 0, none⟩) 1 1]).run Tryz.prog (w.alloc (recCells r)) = .ok (.slice ao' (n + 1) c') w1 ∧ (∀ k, K k → L k) ∧ Log w1 L a l d vss off fuse F N base ep rs D ∧ Side w0 w1 L ao' c' (ts ++ [r]) ∧ w.heap.size ≤ w1.heap.size ∧ ∀ k, k < w.heap.size → some k ≠ (Value.slice ao ts.length c).ownBlock → w1.heap[k]? = w.heap[k]? := by
  subst hn
  have hbel := below_box w (recCells r)
  have h1 := hL.below hbel
  have h2 := hS.below hbel
  have hrow : ∀ i x, [r][i]? = some x → CellsFrom (w.alloc (recCells r)) w.heap.size (0 + i * 10) x := by
    intro i x hi
    cases i with
    | zero =>
      simp only [List.getElem?_cons_zero, Option.some.injEq] at hi
      subst hi
      have hc := cells10_new w r
      exact ⟨hc.c0, hc.c1, hc.c2, hc.c3, hc.c4, hc.c5, hc.c6, hc.c7, hc.c8, hc.c9, hc.lt⟩
    | succ i => simp at hi
  obtain ⟨ao', c', w1, hr, ho, hgr, hbw, hat⟩ := run_appendR (yc := 1) h2.own rfl (show [r].length = 1 from rfl) (by omega) h2.bel.size hrow ty
  have hln : (ts ++ [r]).length = ts.length + 1 := by simp
  have hsz := hgr.size
  refine ⟨ao', c', w1, wider K (w.alloc (recCells r)).heap.size w1.heap.size, hr, fun k hk => .inl hk, h1.stays hsz (fun k hk hn => hgr.block k hk fun e => hn (h2.at_ k e.symm)) ?_ ?_, ⟨ho, fun g hg => ?_, fun k hk => .inl (h2.old k hk), h2.bel.trans hbw, h2.err⟩, Nat.le_trans hbel.size hsz, fun k hk hne => (hgr.block k (Nat.lt_of_lt_of_le hk hbel.size) hne).trans (hbel.block k hk)⟩
  · rintro k (h3 | h3)
    · exact ⟨Nat.lt_of_lt_of_le (h1.low k h3) hsz, fun _ => h3⟩
    · exact ⟨h3.2, fun h4 => by omega⟩
  · intro i hi
    refine ⟨.inl (h1.errs i hi).1, ?_⟩
    rw [← (h1.errs i hi).2]
    refine World.cell?_of_block (w := w.alloc (recCells r)) (hgr.block _ (h1.low _ (h1.errs i hi).1) fun e => ?_)
    have h5 := (h2.own.1.lt (gno i) e.symm).1
    have h6 := h2.err i hi
    omega
  · rw [hln] at hg
    rcases hat with h3 | ⟨g', h3, h4⟩
    · exact .inl (h2.at_ g (h3 ▸ hg))
    · rw [h3] at hg
      simp only [Option.some.injEq] at hg
      subst hg
      exact .inr ⟨h4, by have := (ho.1.lt g' (by rw [hln]; exact h3)).2; exact this⟩
theorem crash_none (d : Nat) {w : World} {K : Nat → Prop} {a : Nat → Addr} {vss : List (List (List Int))} {off : Bool} {fuse : Int} (h : Disk w K a d vss off fuse) :
    Calls Tryz.prog 20 #[.pointer (some ⟨d, 0, none⟩), .slice none 0 0] w fun e w' => e = .returned (.tuple #[]) ∧ Disk w' K a d (crashed [] vss) false (-1) ∧ Kept K w w' :=
  crash_any d none 0 [] h (by unfold IRow; simp) (fun h => by simp at h)
/-- Side and log, both behind new memory that K names too. -/
theorem both_wide (hL : Log w K a l d vss off fuse F N base ep rs D) (hS : Side w0 w K ao c ts) (hb : Below w.heap.size w w') : ∃ L, (∀ k, K k → L k) ∧ (∀ k, w.heap.size ≤ k → k < w'.heap.size → L k) ∧ Log w' L a l d vss off fuse F N base ep rs D ∧ Side w0 w' L ao c ts := by
  obtain ⟨L, h1, h2, h3⟩ := hL.wide hb
  exact ⟨L, h1, h2, h3, (hS.below hb).wide h1⟩
end
end Go.Proofs.YtjacenhblclkaaaGreatDoor

/- A log on a disk as it should be, told in one word: what Append, Flush, a crash and Open make of it; plain lemmas. -/
namespace Go.Proofs.YtjacenhblclkaaaGreatDoor
open Go.RowKit
set_option linter.unusedVariables false

/-- A log of N blocks from sector F on, in the boot ep, as it should be. -/
structure Kp (F N : Nat) (ep : Int) (rs : List R) (D : Nat) (vss : List (List (List Int))) (off : Bool) : Prop where
  walk : ∃ e, Walk N ep rs D (verL vss F) e
  has : hasV vss
  tig : tight vss off
  len : F + N ≤ vss.length
theorem zero_fill : zeroB (fillOf 0) = true := by decide +kernel
section
variable {F N : Nat} {ep : Int} {rs : List R} {D : Nat} {vss : List (List (List Int))} {off : Bool}
theorem kp_new (F N n : Nat) (h : F + N ≤ n) : Kp F N 1 [] 0 (List.replicate n [fillOf 0]) false := by
  refine ⟨⟨fun _ => 1, walk_new N _ _ fun k hk v hv => ?_⟩, hasV_new n _, tight_new n _ _, by rw [List.length_replicate]; exact h⟩
  unfold verL at hv
  rw [List.getD_eq_getElem?_getD, List.getElem?_replicate, if_pos (by omega)] at hv
  have hv' : v = fillOf 0 := by simpa using hv
  rw [hv']
  exact ⟨length_fillOf 0, zero_fill⟩
theorem Kp.append (h : Kp F N ep rs D vss off) (r : R) (hg : goodB r = true ∧ r.fits) (hl : rs.length + 1 ≤ 6 * N) : Kp F N ep (rs ++ [r]) D vss off := by
  obtain ⟨e, hw⟩ := h.walk
  exact ⟨⟨e, hw.append [r] (fun x hx => by rw [List.mem_singleton.1 hx]; exact hg) hl⟩, h.has, h.tig, h.len⟩
theorem Kp.flush (h : Kp F N ep rs D vss off) (fuse : Int) : Kp F N ep rs (flD (flushW F ep rs D vss off fuse).2.2.2 rs.length D) (flushW F ep rs D vss off fuse).1 (flushW F ep rs D vss off fuse).2.2.1 := by
  obtain ⟨e, hw⟩ := h.walk
  refine ⟨flush_walk off fuse hw h.len h.has, hasV_flushW off fuse h.len hw.len hw.dle h.has, tight_flush h.tig, ?_⟩
  rw [length_flushW]
  exact h.len
theorem Kp.crash (h : Kp F N ep rs D vss off) (zs : List Int) (ep' : Int) (h1 : ep < ep') (h2 : ep' ≤ 1073741824) : ∃ m, D ≤ m ∧ m ≤ rs.length ∧ openUp (rdL (crashed zs vss) F) ep' N 0 1 [] = (rs.take m, -1) ∧ Kp F N ep' (rs.take m) m (crashed zs vss) false := by
  obtain ⟨e, hw⟩ := h.walk
  obtain ⟨m, e', h3, h4, h5, h6⟩ := crash_opened zs hw h.len h.has ep' h1 h2
  exact ⟨m, h3, h4, h5, ⟨e', h6⟩, hasV_crashed zs vss h.has, tight_crashed zs vss h.has false, by rw [length_crashed]; exact h.len⟩
theorem Kp.bd2 (h : Kp F N ep rs D vss off) : verBd vss 2 := h.tig.2
theorem Kp.dle (h : Kp F N ep rs D vss off) : D ≤ rs.length := by obtain ⟨e, hw⟩ := h.walk; exact hw.dle
theorem Kp.good (h : Kp F N ep rs D vss off) : ∀ r ∈ rs, goodB r = true ∧ r.fits := by obtain ⟨e, hw⟩ := h.walk; exact hw.good
theorem Kp.lenr (h : Kp F N ep rs D vss off) : rs.length ≤ 6 * N := by obtain ⟨e, hw⟩ := h.walk; exact hw.len
end
/-- A number of a list that came in. -/
theorem row_at {w : World} {lo : Option Addr} {len cap : Nat} {zs : List Int} (h : IsRow .i64 w lo len cap zs) (hl : len ≤ 500) {i : Nat} (hi : i < len) : ∃ b off, lo = some ⟨b, off, none⟩ ∧ b < w.heap.size ∧ w.cell? ⟨b, off + i, none⟩ = some (.int .i64 (zs.getD i 0)) := by
  have h0 := seq_new5 h hl (Below.refl _ _)
  obtain ⟨b, off, e, hlt, hc⟩ := h0.row i hi
  refine ⟨b, off, e, hlt, ?_⟩
  rw [← hc]
  exact (((Below.refl w.heap.size w).alloc (Nat.le_refl _) (seqCells lo len cap)).cell (p := ⟨b, off + i, none⟩) hlt).symm
end Go.Proofs.YtjacenhblclkaaaGreatDoor
