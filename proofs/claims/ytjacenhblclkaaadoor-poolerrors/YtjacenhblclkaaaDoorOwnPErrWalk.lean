
/- What the statement PoolErrors asks comes out true, at every number and byte; nothing that was there is written. -/
import Derived.Test.YtjacenhblclkaaaDoorJoin51
import Derived.Test.YtjacenhblclkaaaDoorJoin5
namespace Go.Proofs.YtjacenhblclkaaaDoor.poolErrors
open Go.RowKit
set_option linter.unusedVariables false

theorem or_one (x : Int) : (1 ≤ bits .or .u8 x 1 ∧ bits .or .u8 x 1 ≤ 255) := by
  have h1 : (BitVec.ofInt 8 (1 : Int)).toNat = 1 := by decide
  have hA := (BitVec.ofInt 8 x).isLt
  have h3 : (BitVec.ofInt 8 x).toNat ||| 1 < 2 ^ 8 := Nat.or_lt_two_pow hA (by omega)
  have h2 : 1 ≤ (BitVec.ofInt 8 x).toNat ||| 1 := Nat.right_le_or
  have h : bits .or .u8 x 1 = (((BitVec.ofInt 8 x).toNat ||| 1 : Nat) : Int) := by
    show IntKind.u8.wrap (((BitVec.ofInt 8 x ||| BitVec.ofInt 8 1).toNat : Nat) : Int) = _
    rw [BitVec.toNat_or, h1]
    generalize (BitVec.ofInt 8 x).toNat ||| 1 = m at h2 h3
    simp [IntKind.wrap, IntKind.bits, IntKind.signed]
    omega
  rw [h]
  omega
/-- A new sector with one byte turned: it is no page. -/
theorem turned_bad (v : Int) (hv : v ≠ 0) : isPage ((fillOf 0).set 200 v) = false := by
  have hb : ∀ p : Int, p ≠ 200 → byteAt ((fillOf 0).set 200 v) p = byteAt (fillOf 0) p := fun p hp => by
    unfold byteAt
    rw [List.length_set]
    split
    · rw [List.getD_eq_getElem?_getD, List.getD_eq_getElem?_getD, List.getElem?_set_ne (by omega)]
    · rfl
  have hg : ∀ (b : Int) (l : Nat), b + l ≤ 200 → getB ((fillOf 0).set 200 v) b l = getB (fillOf 0) b l := fun b l h => getB_congr _ _ b l fun p h0 h1 => hb p (by omega)
  have h1 : lsnOf ((fillOf 0).set 200 v) = 0 := (hg 0 4 (by omega)).trans zero_sec.2.1
  have hk0 : keysOf (fillOf 0) = 0 := by decide +kernel
  have h2 : keysOf ((fillOf 0).set 200 v) = 0 := by
    rw [← hk0]
    unfold keysOf
    rw [hg 4 2 (by omega)]
  have h3 : entsOf ((fillOf 0).set 200 v) = [] := by
    unfold entsOf
    rw [h2]
    rfl
  have h4 : pageB 0 [] = fillOf 0 := by decide +kernel
  unfold isPage
  rw [h1, h3, h4, decide_eq_false, Bool.and_false]
  intro e
  have h5 := congrArg (fun l : List Int => l[200]?) e
  have h6 : (fillOf 0)[200]? = some 0 := by unfold fillOf; rw [List.getElem?_replicate]; rfl
  have h5' : (fillOf 0)[200]? = ((fillOf 0).set 200 v)[200]? := h5
  rw [h6, List.getElem?_set_self (by rw [length_fillOf]; omega)] at h5'
  simp only [Option.some.injEq] at h5'
  exact hv h5'.symm
/-- The state behind the sector that was turned. -/
def Bd (v : Int) (l : List Int) : PSt := ⟨addS (List.replicate 20 [fillOf 0]) 4 ((fillOf 0).set 200 v), false, -1, 1, [], 0, [], l.map fun n => ⟨n, 0, []⟩⟩
theorem bd_sec (v : Int) (l : List Int) : (Bd v l).sec 4 = (fillOf 0).set 200 v ∧ (Bd v l).sec 2 = fillOf 0 ∧ (Bd v l).vss.length = 20 := by
  refine ⟨?_, ?_, ?_⟩ <;> rfl
theorem bd_ok (v : Int) (l : List Int) (h8 : l.length ≤ 8) (hl : ∀ n ∈ l, 1 ≤ n ∧ n < 20) : (Bd v l).Ok 2 := by
  refine ⟨fun p hp => ?_, fun i => ?_, by show (l.map _).length ≤ 8; rw [List.length_map]; exact h8⟩
  · obtain ⟨n, hn, rfl⟩ := List.mem_map.1 hp
    obtain ⟨h1, h2⟩ := hl n hn
    exact ⟨zero_sec.2.2.2, h1, by rw [(bd_sec v l).2.2]; exact h2⟩
  · have h1 : ∀ j, ((List.replicate 20 [fillOf 0]).getD j []).length ≤ 1 := fun j => by
      rw [List.getD_eq_getElem?_getD, List.getElem?_replicate]
      split
      · exact Nat.le_refl _
      · exact Nat.zero_le _
    refine Nat.le_trans (addS_len _ _ _ _) ?_
    have h2 := h1 4
    have h3 := h1 i
    split <;> omega
theorem bd_low (v : Int) (l : List Int) (n : Int) (h : n < 1) : (Bd v l).get 10 0 3 n 0 = ⟨Bd v l, 0, [], 102, false, 0⟩ := by unfold PSt.get; rw [if_pos h]
theorem bd_far (v : Int) (n : Int) (h : 20 ≤ n) : (Bd v []).get 10 0 3 n 0 = ⟨Bd v [], 0, [], 102, false, 0⟩ := by
  have hc : (Bd v []).rdC n = 102 := by
    unfold PSt.rdC
    rw [(bd_sec v []).2.2, show (Bd v []).off = false from rfl, if_neg (by simp), if_pos (.inr (by omega))]
  have hp : (Bd v []).rdP n = false := by unfold PSt.rdP; rw [hc]; rfl
  have hn : (Bd v []).rdN n = 0 := by unfold PSt.rdN; rw [hc]; rfl
  unfold PSt.get
  rw [if_neg (by omega)]
  show (if (Bd v []).roomC 10 0 3 0 = 0 then ((Bd v []).room 10 0 3 0).fetch n else _) = _
  rw [show (Bd v []).roomC 10 0 3 0 = 0 from rfl, if_pos rfl, show (Bd v []).room 10 0 3 0 = Bd v [] from rfl]
  unfold PSt.fetch
  rw [hc, if_neg (by decide), hp, hn]
theorem bd_rd (v : Int) (hv : v ≠ 0) : (Bd v []).rdC 4 = 107 ∧ (Bd v []).rdP 4 = true ∧ (Bd v []).rdN 4 = 4 := by
  have hc : (Bd v []).rdC 4 = 107 := by
    unfold PSt.rdC
    rw [(bd_sec v []).1, turned_bad v hv]
    rfl
  exact ⟨hc, by unfold PSt.rdP; rw [hc]; rfl, by unfold PSt.rdN; rw [hc]; rfl⟩
theorem bd_two (v : Int) : (Bd v []).get 10 0 3 2 0 = ⟨Bd v [2], 0, [], 0, false, 0⟩ := by
  have hc : (Bd v []).rdC 2 = 0 := by
    unfold PSt.rdC
    rw [(bd_sec v []).2.1, zero_sec.1]
    rfl
  unfold PSt.get
  rw [if_neg (by omega)]
  show (if (Bd v []).roomC 10 0 3 0 = 0 then ((Bd v []).room 10 0 3 0).fetch 2 else _) = _
  rw [show (Bd v []).roomC 10 0 3 0 = 0 from rfl, if_pos rfl, show (Bd v []).room 10 0 3 0 = Bd v [] from rfl]
  unfold PSt.fetch
  rw [hc, if_pos rfl, (bd_sec v []).2.1, zero_sec.2.1, zero_sec.2.2.1]
  rfl
theorem bd_at (v : Int) : AtP (Bd v [2]).ps 2 0 ⟨2, 0, []⟩ := ⟨rfl, rfl, fun q hq => by simp at hq⟩
theorem cell_zero {w : World} {g : Nat} (h : Row w (some ⟨g, 0, none⟩) (List.replicate 256 0)) : w.cell? ⟨g, 200, none⟩ = some (.int .u8 0) := by
  obtain ⟨b, off, e, _, hc⟩ := h.2.2 (by rw [List.length_replicate]; omega)
  cases e
  have h1 := hc 200 (by rw [List.length_replicate]; omega)
  rw [Nat.zero_add, List.getD_eq_getElem?_getD, List.getElem?_replicate] at h1
  exact h1
set_option maxRecDepth 100000 in
set_option maxHeartbeats 32000000 in
theorem walk (n b0 : Int) (w : World) (w0 : (Lit.int .i64 n).wf = true) (w1 : (Lit.int .u8 b0).wf = true) {a : Nat → Addr} (he : ErrsOf w all18 a) :
    Calls Tryd.prog 5 #[.int .i64 n, .int .u8 b0] w fun e w' => e = .returned (.bool true) ∧ Below w.heap.size w w' := by
  obtain ⟨i0, hi, hz0, hz1, hz2⟩ := info_parts Tryd.info5
  have HE := hide he
  have HS : Hid ((∀ i ∈ seven, i ∈ all18) ∧ 6 ∈ all18) := ⟨seven18, by decide⟩
  clear he w0 w1
  go_enter Tryd.func5, Tryd.ntmps5
  go_wp2_with fail
  refine (pofirst_any w HE.out HS.out).mono ?_
  rintro e x1 ⟨rfl, hb⟩
  have HB := hide hb
  have HE1 := hide (HE.out.step hb)
  clear hb
  go_wp2_with fail
  refine (made_any 3 x1 HE1.out HS.out).mono ?_
  rintro e x2 ⟨d, l, P, rfl, hp, hb⟩
  rw [show min (max (3 : Int) 1) 8 = 3 from rfl] at hp
  have HP := hide hp
  have HB2 := hide hb
  clear hp hb
  go_wp2_with (at_make; refine wpList_make_full x2 rfl (.const (.int .i64 256)) (.const (.int .i64 256)) 44 rfl x2.heap.size 5 i0 (.int .u8 0) 1 Tryd.underlying44 hi hz0 hz1 .i64 .i64 256 256 256 rfl rfl rfl rfl (by rw [hz2]; omega) (by unfold maxLen; omega) (Nat.le_refl _) ?_; intro x3 hown hgr; have HB3 : Hid (Below x2.heap.size x2 x3) := (Below.refl _ _).grown hgr (Nat.le_refl _) (by simp); have HO := hide (own_made hown (by omega)); have hcu := owns_type HO.out.1 (show (Value.slice (some ⟨x2.heap.size, 0, none⟩) 256 256).ownBlock = some x2.heap.size from rfl); obtain ⟨cur, hcu⟩ := hcu; have fz := frozen_cells hcu 200; have ce : x3.cell? ⟨x2.heap.size, 200, none⟩ = some (.int .u8 0) := cell_zero HO.out.row; clear hown hgr hcu)
  have hv1 := (or_one b0).1
  have hv2 := (or_one b0).2
  obtain ⟨v, hv⟩ : ∃ v, v = bits .or .u8 b0 1 := ⟨_, rfl⟩
  rw [← hv] at hv1 hv2 ⊢
  have HV : Hid (v ≠ 0) := by show v ≠ 0; omega
  have hbs := HB3.out.setCell (p := ⟨x2.heap.size, 200, none⟩) (Nat.le_refl _) (.int .u8 v)
  have HP4 := hide (HP.out.below hbs)
  have HR4 := hide (HO.out.stored 200 v (by omega) hv2).row
  have HB4 := hide (over HB2.out hbs HB2.out.size)
  clear hbs hv HO HP HB3
  refine (lwrite_any HP4.out.log 4 (by show 4 < (List.replicate 20 [fillOf 0]).length; rw [List.length_replicate]; omega) (some ⟨x2.heap.size, 0, none⟩) 256 ((fillOf 0).set 200 v) HR4.out (by rw [List.length_set, length_fillOf]) (by show ((List.replicate 20 [fillOf 0]).getD 4 []).length ≤ 1000; rw [List.getD_eq_getElem?_getD, List.getElem?_replicate]; decide)).mono ?_
  rintro e y0 ⟨fv, rfl, hcd, hlog, hkept⟩
  obtain rfl : fv = .nilIface := by
    rcases hcd with ⟨h1, _⟩ | ⟨i, _, _, h3⟩
    · exact h1
    · have h4 : (0 : Int) = 101 + (i : Int) := h3
      omega
  have H0 : Hid (PoolOf y0 (ahead x1.heap.size) a P l d 10 9 0 3 none none 0 [] 0 (Bd v [])) := HP4.out.turn hlog hkept
  have B0 := hide (below_pool HB4.out (hkept.mono fun k hk => .inl hk))
  clear hcd hlog hkept HP4 HR4 HB4 HB2
  go_wp2_with fail
  refine (number_any n 100 _ (by omega) (by omega)).mono ?_
  rintro e yy ⟨rfl, rfl⟩
  obtain ⟨m, hm⟩ : ∃ m, m = numberB n 100 := ⟨_, rfl⟩
  have hmb : 0 ≤ m ∧ m < 100 := by rw [hm]; exact numberB_bd n 100 (by omega)
  rw [← hm]
  clear hm
  go_wp2_with fail
  refine (pget_any H0.out (bd_ok v [] (by simp) (by simp)) (by omega) (by omega) (-m) 0).mono ?_
  rintro e y1 ⟨ao1, c1, fv, fo1, fc1, fs1, rfl, hown, hf, hp, hk⟩
  rw [bd_low v [] (-m) (by omega)] at hown hf hp ⊢
  obtain rfl : fv = errV (a 1) := code_bare (i := 1) (fault_bare hf)
  have HPa : Hid (PoolOf y1 _ a P l d 10 9 0 3 none fo1 fc1 fs1 0 (Bd v [])) := hp
  have HBa := hide (below_pool B0.out (hk.mono fun k hk => hk))
  clear hown hf hp hk H0 B0
  have hbx := below_box y1 (pageBlock 0 ao1 0 c1)
  have H1 := hide (HPa.out.below hbx)
  have B1 := hide (over HBa.out hbx HBa.out.size)
  unfold pageBlock at H1 B1
  unfold pageV errV
  clear hbx HPa HBa
  go_upto_region 13 with fail
  obtain ⟨z1, hz⟩ : ∃ z1, z1 = y1.alloc (.cells #[.int .i64 0, .slice ao1 0 c1] 34) := ⟨_, rfl⟩
  rw [← hz] at H1 B1 ⊢
  clear hz
  go_wp2_with fail
  refine (pget_any H1.out (bd_ok v [] (by simp) (by simp)) (by omega) (by omega) (20 + m) 0).mono ?_
  rintro e y2 ⟨ao2, c2, fv, fo2, fc2, fs2, rfl, hown, hf, hp, hk⟩
  rw [bd_far v (20 + m) (by omega)] at hown hf hp ⊢
  obtain rfl : fv = errV (a 1) := code_bare (i := 1) (fault_bare hf)
  have HPa : Hid (PoolOf y2 _ a P l d 10 9 0 3 none fo2 fc2 fs2 0 (Bd v [])) := hp
  have HBa := hide (below_pool B1.out (hk.mono fun k hk => hk))
  clear hown hf hp hk H1 B1
  have hbx := below_box y2 (pageBlock 0 ao2 0 c2)
  have H2 := hide (HPa.out.below hbx)
  have B2 := hide (over HBa.out hbx HBa.out.size)
  unfold pageBlock at H2 B2
  unfold pageV errV
  clear hbx HPa HBa
  go_upto_region 14 with fail
  obtain ⟨z2, hz⟩ : ∃ z2, z2 = y2.alloc (.cells #[.int .i64 0, .slice ao2 0 c2] 34) := ⟨_, rfl⟩
  rw [← hz] at H2 B2 ⊢
  clear hz
  go_wp2_with fail
  refine (pget_miss H2.out 4 0 (by omega) (fun p hp => by simp [Bd] at hp) (by show ¬ (3 : Int) ≤ ((0 : Nat) : Int); omega) (by rw [bd_rd v HV.out |>.1]; decide) (by show 0 ≤ 8; omega)).mono ?_
  rintro e y3 ⟨fv, rfl, hf, hb, hat⟩
  rw [(bd_rd v HV.out).1, (bd_rd v HV.out).2.1, (bd_rd v HV.out).2.2] at hf
  rcases hf with ⟨_, h2, _⟩ | ⟨b, rfl, _, _, hblk⟩
  · cases h2
  have hbx := below_box y3 (pageBlock 0 none 0 0)
  have hbb := over hb hbx hb.size
  have HAT : Hid ((y3.alloc (pageBlock 0 none 0 0)).heap[b]? = some (.cells #[.int .i64 4, errV (a 6)] 118 (0, 0))) := (hbx.block b (lt_of_block hblk)).trans hblk
  have HIN : Hid (wider (ahead x1.heap.size) z2.heap.size (y3.alloc (pageBlock 0 none 0 0)).heap.size b) := .inr ⟨hat b rfl, lt_of_block HAT.out⟩
  have H3 := hide (H2.out.wide hbb)
  have B3 := hide (over B2.out hbb B2.out.size)
  unfold pageBlock at H3 B3 HAT HIN
  unfold pageV atV
  clear hb hat hbx hbb hblk H2 B2
  go_upto_region 15 with fail
  obtain ⟨z3, hz⟩ : ∃ z3, z3 = y3.alloc (.cells #[.int .i64 0, .slice none 0 0] 34) := ⟨_, rfl⟩
  rw [← hz] at H3 B3 HAT HIN ⊢
  clear hz
  obtain ⟨K3, hK3⟩ : ∃ K3, K3 = wider (ahead x1.heap.size) z2.heap.size z3.heap.size := ⟨_, rfl⟩
  have HKK : Hid (∀ k, ahead x1.heap.size k → K3 k) := by show ∀ k, ahead x1.heap.size k → K3 k; rw [hK3]; exact fun k hk => .inl hk
  rw [← hK3] at H3 HIN
  clear hK3
  go_wp2_with fail
  refine (pset_none H3.out 2 (fun p hp => by simp [Bd] at hp) 0 none 0 0).mono ?_
  rintro e z4 ⟨rfl, hp, hk⟩
  have H4 := hide hp
  have B4 := hide (below_pool B3.out (hk.mono HKK.out))
  have HAT4 : Hid (z4.heap[b]? = some (.cells #[.int .i64 4, errV (a 6)] 118 (0, 0))) := (hk.block b HIN.out).trans HAT.out
  clear hp hk H3 B3 HAT
  unfold errV
  go_wp2_with fail
  refine (pget_any H4.out (bd_ok v [] (by simp) (by simp)) (by omega) (by omega) 2 0).mono ?_
  rintro e y5 ⟨ao5, c5, fv, fo5, fc5, fs5, rfl, hown, hf, hp, hk⟩
  rw [bd_two v] at hown hf hp ⊢
  obtain rfl : fv = .nilIface := faultOf_nil hf
  have HPa : Hid (PoolOf y5 K3 a P l d 10 9 0 3 none fo5 fc5 fs5 0 (Bd v [2])) := hp
  have HBa := hide (below_pool B4.out (hk.mono HKK.out))
  have HAT5 : Hid (y5.heap[b]? = some (.cells #[.int .i64 4, errV (a 6)] 118 (0, 0))) := (hk.block b HIN.out).trans HAT4.out
  clear hown hf hp hk H4 B4 HAT4
  have hbx := below_box y5 (pageBlock 0 ao5 0 c5)
  have H5 := hide (HPa.out.below hbx)
  have B5 := hide (over HBa.out hbx HBa.out.size)
  have HAT6 := hide ((hbx.block b (lt_of_block HAT5.out)).trans HAT5.out)
  unfold pageBlock at H5 B5 HAT6
  unfold pageV
  clear hbx HPa HBa HAT5
  go_upto_region 17 with fail
  obtain ⟨z5, hz⟩ : ∃ z5, z5 = y5.alloc (.cells #[.int .i64 0, .slice ao5 0 c5] 34) := ⟨_, rfl⟩
  rw [← hz] at H5 B5 HAT6 ⊢
  clear hz
  go_wp2_with fail
  refine (pset_bad H5.out 2 (bd_at v) (-1) none 0 0 [] (entRow_nil _ _) rfl (by decide)).mono ?_
  rintro e z6 ⟨rfl, hp, hk⟩
  have H6 := hide hp
  have B6 := hide (below_pool B5.out (hk.mono HKK.out))
  have HAT7 : Hid (z6.heap[b]? = some (.cells #[.int .i64 4, errV (a 6)] 118 (0, 0))) := (hk.block b HIN.out).trans HAT6.out
  clear hp hk H5 B5 HAT6
  unfold errV
  go_wp2_with fail
  refine (pset_ok H6.out (by omega) 2 (wf_small (by omega) (by omega)) (bd_at v) 3 none 0 0 [] (entRow_nil _ _) rfl (by decide)).mono ?_
  rintro e z7 ⟨mb', fs', rfl, hp, hk⟩
  have H7 := hide hp
  have B7 := hide (below_pool B6.out (hk.mono HKK.out))
  have HAT8 : Hid (z7.heap[b]? = some (.cells #[.int .i64 4, errV (a 6)] 118 (0, 0))) := (hk.block b HIN.out).trans HAT7.out
  clear hp hk H6 B6 HAT7
  go_wp2_with fail
  refine (is_err z7 a 1 (by omega) 102 rfl (HE1.out.step B7.out)).mono ?_
  rintro e t1 ⟨rfl, hb⟩
  have C1 := hide hb
  clear hb
  go_wp2_with fail
  refine (is_err t1 a 1 (by omega) 102 rfl (HE1.out.step (over B7.out C1.out B7.out.size))).mono ?_
  rintro e t2 ⟨rfl, hb⟩
  have C2 := hide (over C1.out hb C1.out.size)
  clear hb C1
  go_wp2_with fail
  refine (placed_b 107 4 t2 (by decide)).mono ?_
  rintro e t3 ⟨rfl, hb⟩
  have C3 := hide (over C2.out hb C2.out.size)
  clear hb C2
  go_wp2_with fail
  have hat := (C3.out.block b (lt_of_block HAT8.out)).trans HAT8.out
  refine (same_placed t3 a 6 (by omega) b 4 107 rfl (HE1.out.step (over B7.out C3.out B7.out.size)) ((cell_row hat 0).trans rfl) ((cell_row hat 1).trans rfl)).mono ?_
  rintro e t4 ⟨rfl, hb⟩
  have C4 := hide (over C3.out hb C3.out.size)
  clear hb hat C3
  go_wp2_with fail
  refine (is_err t4 a 1 (by omega) 102 rfl (HE1.out.step (over B7.out C4.out B7.out.size))).mono ?_
  rintro e t5 ⟨rfl, hb⟩
  have C5 := hide (over C4.out hb C4.out.size)
  clear hb C4
  go_wp2_with fail
  refine (is_err t5 a 1 (by omega) 102 rfl (HE1.out.step (over B7.out C5.out B7.out.size))).mono ?_
  rintro e t6 ⟨rfl, hb⟩
  have C6 := hide (over C5.out hb C5.out.size)
  clear hb C5
  go_wp2_with fail
  refine (phere_any (H7.out.below C6.out)).mono ?_
  rintro e t7 ⟨ao9, c9, rfl, _, hb⟩
  have C7 := hide (over C6.out hb C6.out.size)
  rw [show (hereL ((Bd v [2]).setS 0 2 3 []).ps).length = 1 from rfl]
  clear hb C6
  go_wp2_with fail
  go_ret
  exact ⟨rfl, over HB.out (over B7.out C7.out B7.out.size) HB.out.size⟩
end Go.Proofs.YtjacenhblclkaaaDoor.poolErrors
