/- Lemmas and contracts that the law stands on, joined: PageRead, PageRead2. -/
import Derived.Test.YtjacenhblclkaaaDoorJoin14
import Derived.Test.YtjacenhblclkaaaDoorJoin7
import Derived.Deep.RegionHeld3
import Derived.Deep.Cut
import Derived.Deep.RegionLaw
import Derived.Test.YtjacenhblclkaaaDoorJoin5
import Derived.Test.YtjacenhblclkaaaDoorJoin16
/- What page.said and page.Read answer. -/
namespace Go.Proofs.YtjacenhblclkaaaDoor
open Go.RowKit
set_option linter.unusedVariables false

theorem step_append_e {P : Program} {w : World} {ops : Array Oper} {o : Oper} {a : Act} {K : Act → World → Prop} {Q : Exit → Act → World → Prop} {E : Prop} (hw : Region.wanted o (yielded ops a.tmps) = true) (s x : Operand) (t : TypeId)
    (ho : o.op = .call { callee := .builtin .append, args := #[s, x], argTypes := #[t, t] }) (vs vx : Value) (hs : a.eval s = vs) (hx : a.eval x = vx) {v' : Value} {w' : World} (hr : (Builtin.append_ #[t, t] o.type #[vs, vx]).run P w = .ok v' w')
    (h : K (a.put o.dst v') w') : if Region.wanted o (yielded ops a.tmps) = true then Oper.wp P o a w K Q else E := by
  rw [if_pos hw]
  unfold Oper.wp execOp
  simp only [ho, resolve, invoke, builtin, Sem.run_bind, Sem.run_pure, Result.andThen_ok, List.map_toArray, List.map_cons, List.map_nil, hs, hx, hr]
  exact h
theorem step_call_e {P : Program} {w : World} {ops : Array Oper} {o : Oper} {a : Act} {K : Act → World → Prop} {Q : Exit → Act → World → Prop} {E : Prop} {f : FuncId} {ys : List Operand} {ts : Array TypeId} (hw : Region.wanted o (yielded ops a.tmps) = true) (hop : o.op = .call { callee := .value (.func f), args := ys.toArray, argTypes := ts }) (hf : Enters P f) {v : Value} {vs : Array Value} (hvs : (ys.map a.eval).toArray = vs) (hc : Calls P f vs w fun e w' => e = .returned v ∧ w' = w)
    (h : K (a.put o.dst v) w) : if Region.wanted o (yielded ops a.tmps) = true then Oper.wp P o a w K Q else E := by
  rw [if_pos hw]
  unfold Oper.wp
  rw [run_enter hf hop, List.map_toArray, hvs]
  refine hc.mono ?_
  rintro e w' ⟨rfl, rfl⟩
  exact h
theorem enters73 : Enters Tryd.prog 73 := enters Tryd.func73 (by kernel_rfl) (by kernel_rfl)
/-- A page that is being read: it lies at block P, its entries are our own. -/
structure PageAt (w0 w : World) (P : Nat) (lsn : Int) (ao : Option Addr) (n c : Nat) (es : List (Int × Int)) : Prop where
  head : w.heap[P]? = some (.cells #[.int .i64 lsn, .slice ao n c] 34 (0, 0))
  own : OwnE w w0.heap.size ao c es
  num : es.length = n
  lo : w0.heap.size ≤ P
  bel : Below w0.heap.size w0 w
theorem PageAt.cell {w0 w : World} {P : Nat} {lsn : Int} {ao : Option Addr} {n c : Nat} {es : List (Int × Int)} (h : PageAt w0 w P lsn ao n c es) : w.cell? ⟨P, 0, none⟩ = some (.int .i64 lsn) ∧ w.cell? ⟨P, 1, none⟩ = some (.slice ao n c) ∧ w.frozen? ⟨P, 1, none⟩ = false ∧ P < w.heap.size :=
  ⟨(cell_row h.head 0).trans rfl, (cell_row h.head 1).trans rfl, by simp [World.frozen?, h.head], lt_of_block h.head⟩
theorem PageAt.ne {w0 w : World} {P : Nat} {lsn : Int} {ao : Option Addr} {n c : Nat} {es : List (Int × Int)} (h : PageAt w0 w P lsn ao n c es) {g : Nat} (hg : (Value.slice ao es.length c).ownBlock = some g) : g ≠ P := by
  rcases h.own.1.2 with ⟨h1, _⟩ | ⟨g', c', cur, h1, _, h3, _⟩
  · rw [h1] at hg; simp [Value.ownBlock] at hg
  · rw [h1] at hg
    simp only [Value.ownBlock, Option.some.injEq] at hg
    subst hg
    rintro rfl
    rw [h.head] at h3
    simp at h3
theorem PageAt.step {w0 w w' : World} {P : Nat} {lsn : Int} {ao : Option Addr} {n c : Nat} {es : List (Int × Int)} (h : PageAt w0 w P lsn ao n c es) (hb : Below w.heap.size w w') : PageAt w0 w' P lsn ao n c es :=
  ⟨by rw [hb.block P (lt_of_block h.head)]; exact h.head, h.own.step hb, h.num, h.lo, over h.bel hb h.bel.size⟩
/-- One entry is put behind the others, and the page's list set to it. -/
theorem PageAt.append {w0 w : World} {P : Nat} {lsn : Int} {ao : Option Addr} {n c : Nat} {es : List (Int × Int)} (h : PageAt w0 w P lsn ao n c es) (hn : n ≤ 900) (e : Int × Int) (ty : TypeId) :
    ∃ ao' c' w1, (Builtin.append_ #[32, 32] ty #[.slice ao n c, .slice (some ⟨w.heap.size, 0, none⟩) 1 1]).run Tryd.prog (w.alloc (entBlock e)) = .ok (.slice ao' (n + 1) c') w1 ∧ w1.cell? ⟨P, 1, none⟩ = some (.slice ao n c) ∧ w1.frozen? ⟨P, 1, none⟩ = false ∧ PageAt w0 (w1.setCell ⟨P, 1, none⟩ (.slice ao' (n + 1) c')) P lsn ao' (n + 1) c' (es ++ [e]) ∧ ∀ j z, w.heap[j]? = some (.cells z 34 (0, 0)) → j ≠ P → (w1.setCell ⟨P, 1, none⟩ (.slice ao' (n + 1) c')).heap[j]? = w.heap[j]? := by
  have hbx := below_box w (entBlock e)
  have h1 := h.step hbx
  obtain ⟨ao', c', w1, hr, ho, hg, hb⟩ := run_appendE (yc := 1) h1.own h1.num (show [e].length = 1 from rfl) (by omega) h1.bel.size (ent_new w e) ty
  have hP := lt_of_block h1.head
  have hh : w1.heap[P]? = _ := (hg.block P hP (fun e' => h1.ne (by rw [h1.num]; exact e'.symm) rfl)).trans h1.head
  have hln : (es ++ [e]).length = n + 1 := by rw [List.length_append, h.num]; rfl
  refine ⟨ao', c', w1, hr, (cell_row hh 1).trans rfl, by simp [World.frozen?, hh], ⟨?_, ?_, hln, h.lo, ?_⟩, fun j z hj hjP => ?_⟩
  · rw [set_block hh]; rfl
  · have hne : ∀ g, (Value.slice ao' (es ++ [e]).length c').ownBlock = some g → g ≠ P := by
      intro g hg' e'
      rcases ho.1.2 with ⟨h3, _⟩ | ⟨g', c'', cur, h3, _, h5, _⟩
      · rw [h3] at hg'; simp [Value.ownBlock] at hg'
      · rw [h3] at hg'
        simp only [Value.ownBlock, Option.some.injEq] at hg'
        subst hg'
        subst e'
        rw [hh] at h5
        simp at h5
    obtain ⟨⟨q0, q1⟩, q2⟩ := ho
    refine ⟨⟨q0, ?_⟩, q2⟩
    rcases q1 with q1 | ⟨g, c'', cur, hv, hg', hh', r⟩
    · exact .inl q1
    · exact .inr ⟨g, c'', cur, hv, hg', by rw [Below.heap_setCell _ _ _ _ (hne g (by rw [hv]; rfl))]; exact hh', r⟩
  · exact (h1.bel.trans hb).setCell (p := ⟨P, 1, none⟩) h.lo _
  · have hjl := lt_of_block hj
    have hj1 := (hbx.block j hjl).trans hj
    rw [Below.heap_setCell _ _ _ _ hjP, hg.block j (lt_of_block hj1) (fun e' => ?_), hj1, hj]
    rcases h1.own.1.2 with ⟨h3, _⟩ | ⟨g', c'', cur, h3, _, h5, _⟩
    · rw [h1.num] at h3
      rw [h3] at e'
      simp [Value.ownBlock] at e'
    · rw [h1.num] at h3
      rw [h3] at e'
      simp only [Value.ownBlock, Option.some.injEq] at e'
      rw [← e', hj1] at h5
      simp at h5
theorem OwnE.setPage {w : World} {B B2 : Nat} {ao : Option Addr} {cap : Nat} {es : List (Int × Int)} {z : Array Value} (h : OwnE w B ao cap es) (hz : w.heap[B2]? = some (.cells z 34 (0, 0))) (o : Nat) (v : Value) : OwnE (w.setCell ⟨B2, o, none⟩ v) B ao cap es := by
  obtain ⟨⟨q0, q1⟩, q2⟩ := h
  refine ⟨⟨q0, ?_⟩, q2⟩
  rcases q1 with q1 | ⟨g, c'', cur, hv, hg', hh', r⟩
  · exact .inl q1
  · refine .inr ⟨g, c'', cur, hv, hg', ?_, r⟩
    rw [Below.heap_setCell _ _ _ _ (by rintro rfl; rw [hz] at hh'; simp at hh')]
    exact hh'
theorem getB4 (xs : List Int) (hb : Bytes xs) (a : Int) : 0 ≤ getB xs a 4 ∧ getB xs a 4 ≤ 4294967295 := by have := getB_lt xs hb a 4; rw [pow4] at this; omega
theorem getB2 (xs : List Int) (hb : Bytes xs) (a : Int) : 0 ≤ getB xs a 2 ∧ getB xs a 2 ≤ 65535 := by have := getB_lt xs hb a 2; rw [show (256 : Int) ^ 2 = 65536 by decide] at this; omega
set_option maxRecDepth 100000 in
set_option maxHeartbeats 4000000 in
theorem psaid_any (bo : Option Addr) (cap : Nat) (xs : List Int) (w : World) (h : Row w bo xs) (hl : xs.length = 256) : Calls Tryd.prog 43 #[.slice bo 256 cap] w fun e w' => ∃ ao c, e = .returned (pageV (lsnOf xs) ao (keysOf xs) c) ∧ OwnE w' w.heap.size ao c (entsOf xs) ∧ Below w.heap.size w w' := by
  have HR := hide h
  have HL := hide hl
  have HBY := hide h.2.1
  have hk20 := keysOf_le xs
  obtain ⟨n, hn⟩ : ∃ n, n = keysOf xs := ⟨_, rfl⟩
  have HN := hide hn
  obtain ⟨L, hL⟩ : ∃ L, getB xs 0 4 = L := ⟨_, rfl⟩
  have hLb := getB4 xs h.2.1 0
  rw [hL] at hLb
  obtain ⟨hL0, hL1⟩ := hLb
  obtain ⟨M, hM⟩ : ∃ M, getB xs 4 2 = M := ⟨_, rfl⟩
  have hMb := getB2 xs h.2.1 4
  rw [hM] at hMb
  obtain ⟨hM0, hM1⟩ := hMb
  have hmin : min M 20 = (n : Int) := by rw [hn]; unfold keysOf; rw [hM]; omega
  have HLS : Hid (lsnOf xs = L) := hL
  have HL2 := hide hL
  have HM2 := hide hM
  clear h hl hn hL hM
  go_enter Tryd.func43, Tryd.ntmps43
  have hb0 := below_box w (pageBlock 0 none 0 0)
  have HB0 := hide hb0
  have HR0 := hide (HR.out.below hb0 (Nat.le_refl _))
  have HZ : Hid ((w.alloc (pageBlock 0 none 0 0)).heap[w.heap.size]? = some (.cells #[.int .i64 0, .slice none 0 0] 34 (0, 0))) := heap_alloc_new _ _
  unfold pageBlock at HB0 HR0 HZ
  clear hb0
  go_wp2_with fail
  refine (get_len bo 256 cap xs 0 4 _ HR0.out HL.out (by omega) (by omega)).mono ?_
  rintro e w1 ⟨rfl, rfl⟩
  rw [show getB xs 0 (widthB 4).toNat = L from HL2.out]
  obtain ⟨W, hW⟩ : ∃ W, W = w.alloc (.cells #[.int .i64 0, .slice none 0 0] 34) := ⟨_, rfl⟩
  rw [← hW] at HB0 HR0 HZ ⊢
  obtain ⟨B2, hB2⟩ : ∃ B2, B2 = w.heap.size := ⟨_, rfl⟩
  rw [← hB2] at HZ ⊢
  have HLO : Hid (w.heap.size ≤ B2) := by show w.heap.size ≤ B2; omega
  clear hW hB2
  have hbx := below_box W (pageBlock L none 0 0)
  have HP : Hid (PageAt w (W.alloc (pageBlock L none 0 0)) W.heap.size L none 0 0 []) := ⟨heap_alloc_new _ _, ownE_nil _ _, rfl, HB0.out.size, over HB0.out hbx HB0.out.size⟩
  have HZ1 : Hid ((W.alloc (pageBlock L none 0 0)).heap[B2]? = some (.cells #[.int .i64 0, .slice none 0 0] 34 (0, 0))) := (hbx.block B2 (lt_of_block HZ.out)).trans HZ.out
  have HR1 := hide (HR0.out.below hbx (Nat.le_refl _))
  unfold pageBlock at HP HZ1 HR1
  have HPB : Hid (W.heap.size ≠ B2) := by show W.heap.size ≠ B2; have := lt_of_block HZ.out; omega
  clear hbx HB0 HR0 HZ
  go_upto_region 2 with fail
  obtain ⟨X, hX⟩ : ∃ X, X = W.alloc (.cells #[.int .i64 L, .slice none 0 0] 34) := ⟨_, rfl⟩
  rw [← hX] at HP HZ1 HR1 ⊢
  obtain ⟨P, hP⟩ : ∃ P, P = W.heap.size := ⟨_, rfl⟩
  rw [← hP] at HP HPB ⊢
  clear hX hP
  go_wp2_with fail
  refine (get_len bo 256 cap xs 4 2 _ HR1.out HL.out (by omega) (by omega)).mono ?_
  rintro e w2 ⟨rfl, rfl⟩
  rw [show getB xs 4 (widthB 2).toNat = M from HM2.out]
  go_wp2_with fail
  go_loopw [14] (fun i wr => ∃ (k : Nat) (ao : Option Addr) (c : Nat), i = .int .i64 k ∧ k ≤ n ∧ PageAt w wr P L ao k c (entsUp xs k) ∧ wr.heap[B2]? = some (.cells #[.int .i64 0, .slice none 0 0] 34 (0, 0)) ∧ Row wr bo xs) (fun i _ => n - (intOf i).toNat)
  case atStart => exact ⟨0, none, 0, rfl, by omega, HP.out, HZ1.out, HR1.out⟩
  case round =>
    clear HP HZ1 HR1
    obtain ⟨k, ao, c, rfl, hk, hp, hz, hr⟩ := hrel
    have HP := hide hp
    have HZ := hide hz
    have HR1 := hide hr
    clear hp hz hr
    by_cases hlt : k < n
    · have hki : (k : Int) < (n : Int) := by omega
      have hkb : k ≤ 20 := by omega
      obtain ⟨x0, hx⟩ : ∃ x0, getB xs (16 + (k : Int) * 12) 4 = x0 := ⟨_, rfl⟩
      have hxb := getB4 xs HBY.out (16 + (k : Int) * 12)
      rw [hx] at hxb
      obtain ⟨hx0, hx1⟩ := hxb
      obtain ⟨y0, hy⟩ : ∃ y0, getB xs (16 + (k : Int) * 12 + 4) 8 = y0 := ⟨_, rfl⟩
      have hyb := getB_bd xs HBY.out (16 + (k : Int) * 12 + 4) 8 (by omega)
      rw [hy] at hyb
      obtain ⟨v0, hv⟩ : ∃ v0, i64 y0 = v0 := ⟨_, rfl⟩
      have hw1 : wrap64 y0 = v0 := (i64_wrap y0 hyb).trans hv
      have hw2 : IntKind.i64.wrap y0 = v0 := by rw [← hv, IntKind.wrap_i64]; unfold i64; split <;> omega
      have hw3 : IntKind.i64.wrap x0 = x0 := by rw [IntKind.wrap_i64]; omega
      have hw4 : IntKind.i64.wrap (16 + (k : Int) * 12 + 4) = 16 + (k : Int) * 12 + 4 := by rw [IntKind.wrap_i64]; omega
      have HX := hide hx
      have HY := hide hy
      have HEN : Hid (entAt xs k = (x0, v0)) := by show _ = _; unfold entAt; rw [hx, hy, hv]
      obtain ⟨c0, c1, f1, cl⟩ := HP.out.cell
      obtain ⟨ao', c', w3, hrun, hc3, hf3, hpa, hoth⟩ := (HP.out.step (below_drew (Below.refl _ _))).append (by omega) (x0, v0) 32
      have HRUN : Hid ((Builtin.append_ #[32, 32] 32 #[.slice ao k c, .slice (some ⟨wr.heap.size, 0, none⟩) 1 1]).run Tryd.prog (wr.alloc (.cells #[.int .i64 x0, .int .i64 v0] 114)).drew = .ok (.slice ao' (k + 1) c') w3) := hrun
      rw [← HEN.out, ← entsUp_succ] at hpa
      have HPA := hide hpa
      have HZ3 := hide ((hoth B2 _ HZ.out HPB.out.symm).trans HZ.out)
      clear hoth
      have HC4 : Hid (Calls Tryd.prog 73 #[.slice bo 256 cap, .int .i64 (16 + (k : Int) * 12), .int .i64 4] wr.drew fun e w' => e = .returned (.int .u64 x0) ∧ w' = wr.drew) := by
        refine (get_len bo 256 cap xs (16 + (k : Int) * 12) 4 wr.drew HR1.out HL.out (by omega) (by omega)).mono ?_
        rintro e z1 ⟨rfl, rfl⟩
        exact ⟨by rw [show getB xs (16 + (k : Int) * 12) (widthB 4).toNat = x0 from hx], rfl⟩
      have HC8 : Hid (Calls Tryd.prog 73 #[.slice bo 256 cap, .int .i64 (16 + (k : Int) * 12 + 4), .int .i64 8] wr.drew fun e w' => e = .returned (.int .u64 y0) ∧ w' = wr.drew) := by
        refine (get_len bo 256 cap xs (16 + (k : Int) * 12 + 4) 8 wr.drew HR1.out HL.out (by omega) (by omega)).mono ?_
        rintro e z1 ⟨rfl, rfl⟩
        exact ⟨by rw [show getB xs (16 + (k : Int) * 12 + 4) (widthB 8).toNat = y0 from hy], rfl⟩
      clear hrun hpa hx hy hv hyb
      go_wp2_with fail
      apply dup
      case k =>
       intro TAIL
       go_region_law
        (first
          | (refine step_append_e (by rfl) (.tmp 21) (.tmp 32) 32 (by rfl) _ _ (by rfl) (by rfl) HRUN.out ?_)
          | (refine step_call_e (ys := [.tmp 22, .tmp 23, .const (.int .i64 4)]) (by rfl) (by rfl) enters73 (by rfl) HC4.out ?_)
          | (refine step_call_e (ys := [.tmp 26, .tmp 28, .const (.int .i64 8)]) (by rfl) (by rfl) enters73 (by rfl) HC8.out ?_))
       all_goals exact TAIL.out
      case h =>
        clear hc3 hf3 c0 c1 f1 cl hw1 hw2 hw3 hw4
        go_wp2_with fail
        go_roundw
        case rel => exact ⟨k + 1, ao', c', by go_num, by omega, HPA.out, HZ3.out, HR.out.below HPA.out.bel (Nat.le_refl _)⟩
        case measure => simp [intOf]; omega
    · have hki : decide ((k : Int) < (n : Int)) = false := by simp; omega
      have hkn : k = n := by omega
      subst hkn
      obtain ⟨c0, c1, f1, cl⟩ := HP.out.cell
      have z0 := (cell_row HZ.out 0).trans (show _ = some (Value.int .i64 0) from rfl)
      have z1 := (cell_row HZ.out 1).trans (show _ = some (Value.slice none 0 0) from rfl)
      have g0 : wr.frozen? ⟨B2, 0, none⟩ = false := by simp [World.frozen?, HZ.out]
      have g1 : wr.frozen? ⟨B2, 1, none⟩ = false := by simp [World.frozen?, HZ.out]
      have HNE : ¬ P = B2 := HPB.out
      have HNE2 : ¬ B2 = P := fun e => HNE e.symm
      go_wp2_with fail
      have hz2 := set_block HZ.out 0 (.int .i64 L)
      refine bodyPost_ret (v := .agg #[.int .i64 L, .slice ao k c]) (by simp [results, Tryd.results43, go_sem, z0, z1]) rfl ⟨ao, c, by rw [HLS.out, ← HN.out]; rfl, ?_, ?_⟩
      · rw [entsOf, ← HN.out]
        exact (HP.out.own.setPage HZ.out 0 _).setPage hz2 1 _
      · exact (HP.out.bel.setCell (p := ⟨B2, 0, none⟩) HLO.out _).setCell (p := ⟨B2, 1, none⟩) HLO.out _
end Go.Proofs.YtjacenhblclkaaaDoor

/- What page.Read answers of a sector's bytes that are a page's. -/
namespace Go.Proofs.YtjacenhblclkaaaDoor
open Go.RowKit
set_option linter.unusedVariables false

set_option maxRecDepth 100000 in
set_option maxHeartbeats 4000000 in
theorem pread_ok (bo : Option Addr) (cap : Nat) (xs : List Int) (w : World) {x : Addr} (h : Row w bo xs) (hE : w.cell? ⟨0, 0, none⟩ = some (errV x)) (hn : xs.length = 256) (hi : isPage xs = true) :
    Calls Tryd.prog 16 #[.slice bo 256 cap] w fun e w' => ∃ ao c, e = .returned (.tuple #[pageV (lsnOf xs) ao (keysOf xs) c, .nilIface]) ∧ OwnE w' w.heap.size ao c (entsOf xs) ∧ Below w.heap.size w w' := by
  have hg : okP (lsnOf xs) (entsOf xs) = true := by unfold isPage at hi; simp only [Bool.and_eq_true] at hi; exact hi.1
  have hx : pageB (lsnOf xs) (entsOf xs) = xs := by unfold isPage at hi; simp only [Bool.and_eq_true, decide_eq_true_eq] at hi; exact hi.2
  have hln : (entsOf xs).length = keysOf xs := length_entsUp _ _
  have HB0 := hide (below_box w (pageBlock 0 none 0 0))
  have HRow := hide (h.below HB0.out (Nat.le_refl _))
  have HE := hide ((HB0.out.cell (World.block_lt_of_cell? w _ hE)).trans hE)
  have HZ : Hid ((w.alloc (pageBlock 0 none 0 0)).heap[w.heap.size]? = some (.cells #[.int .i64 0, .slice none 0 0] 34 (0, 0))) := heap_alloc_new _ _
  unfold pageBlock at HB0 HRow HE HZ
  have HN := hide hn
  have HX := hide hx
  have HG := hide hg
  have HLN := hide hln
  obtain ⟨L, hL⟩ : ∃ L, L = lsnOf xs := ⟨_, rfl⟩
  obtain ⟨n, hnn⟩ : ∃ n, n = keysOf xs := ⟨_, rfl⟩
  obtain ⟨es, hes⟩ : ∃ es, es = entsOf xs := ⟨_, rfl⟩
  have HSAID := hide (fun W (hr : Row W bo xs) => psaid_any bo cap xs W hr hn)
  rw [← hL, ← hes] at HX HG
  rw [← hes, ← hnn] at HLN
  rw [← hL, ← hnn, ← hes] at HSAID ⊢
  clear h hE hn hi hg hx hln hL hnn hes
  go_enter Tryd.func16, Tryd.ntmps16
  go_wp2_with fail
  refine (HSAID.out _ HRow.out).mono ?_
  rintro e w2 ⟨ao, c, rfl, hown, hb⟩
  have hbx := below_box w2 (pageBlock L ao n c)
  have hb1 := over hb hbx hb.size
  have HC := hide (page_cells w2 L ao n c)
  have HOE := hide ((hown.mono HB0.out.size).step hbx)
  replace HRow := hide (HRow.out.below hb1 (Nat.le_refl _))
  have HE1 := hide ((hb1.cell (World.block_lt_of_cell? _ _ HE.out)).trans HE.out)
  have HZ1 := hide ((hb1.block _ (lt_of_block HZ.out)).trans HZ.out)
  replace HB0 := hide (over HB0.out hb1 HB0.out.size)
  unfold pageBlock at HC HOE HRow HE1 HZ1 HB0
  clear hown hb hbx hb1 HE HZ
  unfold pageV
  go_upto_region 4 with fail
  obtain ⟨Y, hY⟩ : ∃ Y, Y = w2.alloc (.cells #[.int .i64 L, .slice ao n c] 34) := ⟨_, rfl⟩
  rw [← hY] at HC HOE HRow HE1 HZ1 HB0 ⊢
  obtain ⟨V, hV⟩ : ∃ V, V = w2.heap.size := ⟨_, rfl⟩
  rw [← hV] at HC ⊢
  clear hY hV
  obtain ⟨k0, k1⟩ := HC.out
  go_wp2_with fail
  refine (pb_ok L ao n c es _ x HE1.out HOE.out.row HLN.out HG.out).mono ?_
  rintro e W ⟨g, rfl, hgb, hown, hb⟩
  rw [HX.out] at hown
  have HO := hide hown.row
  replace HRow := hide (HRow.out.below hb (Nat.le_refl _))
  replace HOE := hide (HOE.out.step hb)
  have HZ2 := hide ((hb.block _ (lt_of_block HZ1.out)).trans HZ1.out)
  have k0' := (hb.cell (World.block_lt_of_cell? _ _ k0)).trans k0
  have k1' := (hb.cell (World.block_lt_of_cell? _ _ k1)).trans k1
  replace HB0 := hide (over HB0.out hb HB0.out.size)
  clear hown hb hgb k0 k1 HC HE1 HZ1
  go_wp2_with fail
  refine (equal_any _ _ _ xs _ _ _ xs _ HO.out HRow.out HN.out HN.out (by omega) (by omega)).mono ?_
  rintro e W' ⟨rfl, rfl⟩
  rw [sameB_true rfl]
  obtain ⟨B2, hB2⟩ : ∃ B2, B2 = w.heap.size := ⟨_, rfl⟩
  have HLO : Hid (w.heap.size ≤ B2) := by show w.heap.size ≤ B2; omega
  rw [← hB2] at HZ2 ⊢
  clear hB2
  have z0 := (cell_row HZ2.out 0).trans (show _ = some (Value.int .i64 0) from rfl)
  have z1 := (cell_row HZ2.out 1).trans (show _ = some (Value.slice none 0 0) from rfl)
  have g0 : W'.frozen? ⟨B2, 0, none⟩ = false := by simp [World.frozen?, HZ2.out]
  have g1 : W'.frozen? ⟨B2, 1, none⟩ = false := by simp [World.frozen?, HZ2.out]
  go_wp2_with fail
  have hz2 := set_block HZ2.out 0 (.int .i64 L)
  refine bodyPost_ret (v := .tuple #[.agg #[.int .i64 L, .slice ao n c], .nilIface]) (by simp [results, Tryd.results16, go_sem, z0, z1]) rfl ⟨ao, c, rfl, (HOE.out.setPage HZ2.out 0 _).setPage hz2 1 _, ?_⟩
  exact (HB0.out.setCell (p := ⟨B2, 0, none⟩) HLO.out _).setCell (p := ⟨B2, 1, none⟩) HLO.out _
set_option maxRecDepth 100000 in
set_option maxHeartbeats 4000000 in
theorem pread_short (bo : Option Addr) (n cap : Nat) (w : World) {y : Addr} (hE : w.cell? ⟨3, 0, none⟩ = some (errV y)) (hn : n ≠ 256) :
    Calls Tryd.prog 16 #[.slice bo n cap] w fun e w' => e = .returned (.tuple #[pageV 0 none 0 0, errV y]) ∧ Below w.heap.size w w' := by
  have hne : ((n : Int) != 256) = true := by simp; omega
  have hs := World.new_ne w ⟨3, 0, none⟩ hE
  have hE0 : ∀ X, (w.alloc X).cell? ⟨3, 0, none⟩ = some (errV y) := fun X => ((below_box w X).cell (World.block_lt_of_cell? w _ hE)).trans hE
  clear hE hn
  unfold errV at *
  unfold pageV
  go_enter Tryd.func16, Tryd.ntmps16
  go_wp2_with fail
  go_region
  all_goals
    go_wp2_with fail
    exact bodyPost_ret (v := .tuple #[.agg #[.int .i64 0, .slice none 0 0], .iface 168 (.pointer (some y))]) (by simp [results, Tryd.results16, go_sem]) rfl ⟨rfl, below_drew (below_box _ _)⟩
set_option maxRecDepth 100000 in
set_option maxHeartbeats 4000000 in
theorem pread_bad1 (bo : Option Addr) (cap : Nat) (xs : List Int) (w : World) {x z : Addr} (h : Row w bo xs) (hE : w.cell? ⟨0, 0, none⟩ = some (errV x)) (hP : w.cell? ⟨4, 0, none⟩ = some (errV z)) (hn : xs.length = 256) (hg : okP (lsnOf xs) (entsOf xs) = false) :
    Calls Tryd.prog 16 #[.slice bo 256 cap] w fun e w' => e = .returned (.tuple #[pageV 0 none 0 0, errV z]) ∧ Below w.heap.size w w' := by
  have hln : (entsOf xs).length = keysOf xs := length_entsUp _ _
  have HLT : Hid (4 < w.heap.size) := World.block_lt_of_cell? w _ hP
  have HB0 := hide (below_box w (pageBlock 0 none 0 0))
  have HRow := hide (h.below HB0.out (Nat.le_refl _))
  have HE := hide ((HB0.out.cell (World.block_lt_of_cell? w _ hE)).trans hE)
  have HPE := hide ((HB0.out.cell (World.block_lt_of_cell? w _ hP)).trans hP)
  have HZ : Hid ((w.alloc (pageBlock 0 none 0 0)).heap[w.heap.size]? = some (.cells #[.int .i64 0, .slice none 0 0] 34 (0, 0))) := heap_alloc_new _ _
  unfold pageBlock at HB0 HRow HE HZ HPE
  have HG := hide hg
  have HLN := hide hln
  obtain ⟨L, hL⟩ : ∃ L, L = lsnOf xs := ⟨_, rfl⟩
  obtain ⟨n, hnn⟩ : ∃ n, n = keysOf xs := ⟨_, rfl⟩
  obtain ⟨es, hes⟩ : ∃ es, es = entsOf xs := ⟨_, rfl⟩
  have HSAID := hide (fun W (hr : Row W bo xs) => psaid_any bo cap xs W hr hn)
  rw [← hL, ← hes] at HG
  rw [← hes, ← hnn] at HLN
  rw [← hL, ← hnn, ← hes] at HSAID
  clear h hE hP hn hg hln hL hnn hes
  go_enter Tryd.func16, Tryd.ntmps16
  go_wp2_with fail
  refine (HSAID.out _ HRow.out).mono ?_
  rintro e w2 ⟨ao, c, rfl, hown, hb⟩
  have hbx := below_box w2 (pageBlock L ao n c)
  have hb1 := over hb hbx hb.size
  have HC := hide (page_cells w2 L ao n c)
  have HOE := hide ((hown.mono HB0.out.size).step hbx)
  have HE1 := hide ((hb1.cell (World.block_lt_of_cell? _ _ HE.out)).trans HE.out)
  have HP1 := hide ((hb1.cell (World.block_lt_of_cell? _ _ HPE.out)).trans HPE.out)
  have HZ1 := hide ((hb1.block _ (lt_of_block HZ.out)).trans HZ.out)
  replace HB0 := hide (over HB0.out hb1 HB0.out.size)
  unfold pageBlock at HC HOE HE1 HZ1 HB0 HP1
  clear hown hb hbx hb1 HE HZ HPE HRow
  unfold pageV
  go_upto_region 4 with fail
  obtain ⟨Y, hY⟩ : ∃ Y, Y = w2.alloc (.cells #[.int .i64 L, .slice ao n c] 34) := ⟨_, rfl⟩
  rw [← hY] at HC HOE HE1 HZ1 HB0 HP1 ⊢
  obtain ⟨V, hV⟩ : ∃ V, V = w2.heap.size := ⟨_, rfl⟩
  rw [← hV] at HC ⊢
  clear hY hV
  obtain ⟨k0, k1⟩ := HC.out
  go_wp2_with fail
  refine (pb_bad L ao n c es _ x HE1.out HOE.out.row HLN.out HG.out).mono ?_
  rintro e W ⟨rfl, hb⟩
  have HZ2 := hide ((hb.block _ (lt_of_block HZ1.out)).trans HZ1.out)
  have hP2 := (hb.cell (World.block_lt_of_cell? _ _ HP1.out)).trans HP1.out
  replace HB0 := hide (over HB0.out hb HB0.out.size)
  clear hb k0 k1 HC HE1 HZ1 HP1
  obtain ⟨B2, hB2⟩ : ∃ B2, B2 = w.heap.size := ⟨_, rfl⟩
  have HLO : Hid (w.heap.size ≤ B2) := by show w.heap.size ≤ B2; omega
  have hne : ¬ 4 = B2 := by have := HLT.out; omega
  have hne2 : ¬ B2 = 4 := fun e => hne e.symm
  rw [← hB2] at HZ2 ⊢
  clear hB2
  have z0 := (cell_row HZ2.out 0).trans (show _ = some (Value.int .i64 0) from rfl)
  have z1 := (cell_row HZ2.out 1).trans (show _ = some (Value.slice none 0 0) from rfl)
  have g0 : W.frozen? ⟨B2, 0, none⟩ = false := by simp [World.frozen?, HZ2.out]
  have g1 : W.frozen? ⟨B2, 1, none⟩ = false := by simp [World.frozen?, HZ2.out]
  unfold errV at *
  go_wp2_with fail
  go_region
  all_goals
    go_wp2_with fail
    exact bodyPost_ret (v := .tuple #[.agg #[.int .i64 0, .slice none 0 0], .iface 168 (.pointer (some z))]) (by simp [results, Tryd.results16, go_sem, *]) rfl ⟨rfl, ((below_drew HB0.out).setCell (p := ⟨B2, 0, none⟩) HLO.out _).setCell (p := ⟨B2, 1, none⟩) HLO.out _⟩
set_option maxRecDepth 100000 in
set_option maxHeartbeats 4000000 in
theorem pread_bad2 (bo : Option Addr) (cap : Nat) (xs : List Int) (w : World) {x z : Addr} (h : Row w bo xs) (hE : w.cell? ⟨0, 0, none⟩ = some (errV x)) (hP : w.cell? ⟨4, 0, none⟩ = some (errV z)) (hn : xs.length = 256) (hg : okP (lsnOf xs) (entsOf xs) = true) (hx : pageB (lsnOf xs) (entsOf xs) ≠ xs) :
    Calls Tryd.prog 16 #[.slice bo 256 cap] w fun e w' => e = .returned (.tuple #[pageV 0 none 0 0, errV z]) ∧ Below w.heap.size w w' := by
  have HLT : Hid (4 < w.heap.size) := World.block_lt_of_cell? w _ hP
  have hln : (entsOf xs).length = keysOf xs := length_entsUp _ _
  have HB0 := hide (below_box w (pageBlock 0 none 0 0))
  have HRow := hide (h.below HB0.out (Nat.le_refl _))
  have HE := hide ((HB0.out.cell (World.block_lt_of_cell? w _ hE)).trans hE)
  have HZ : Hid ((w.alloc (pageBlock 0 none 0 0)).heap[w.heap.size]? = some (.cells #[.int .i64 0, .slice none 0 0] 34 (0, 0))) := heap_alloc_new _ _
  have HPE := hide ((HB0.out.cell (World.block_lt_of_cell? w _ hP)).trans hP)
  unfold pageBlock at HB0 HRow HE HZ HPE
  have HN := hide hn
  have HX := hide hx
  have HG := hide hg
  have HLN := hide hln
  obtain ⟨L, hL⟩ : ∃ L, L = lsnOf xs := ⟨_, rfl⟩
  obtain ⟨n, hnn⟩ : ∃ n, n = keysOf xs := ⟨_, rfl⟩
  obtain ⟨es, hes⟩ : ∃ es, es = entsOf xs := ⟨_, rfl⟩
  have HSAID := hide (fun W (hr : Row W bo xs) => psaid_any bo cap xs W hr hn)
  rw [← hL, ← hes] at HX HG
  rw [← hes, ← hnn] at HLN
  rw [← hL, ← hnn, ← hes] at HSAID
  clear h hE hP hn hg hx hln hL hnn hes
  go_enter Tryd.func16, Tryd.ntmps16
  go_wp2_with fail
  refine (HSAID.out _ HRow.out).mono ?_
  rintro e w2 ⟨ao, c, rfl, hown, hb⟩
  have hbx := below_box w2 (pageBlock L ao n c)
  have hb1 := over hb hbx hb.size
  have HC := hide (page_cells w2 L ao n c)
  have HOE := hide ((hown.mono HB0.out.size).step hbx)
  replace HRow := hide (HRow.out.below hb1 (Nat.le_refl _))
  have HE1 := hide ((hb1.cell (World.block_lt_of_cell? _ _ HE.out)).trans HE.out)
  have HP1 := hide ((hb1.cell (World.block_lt_of_cell? _ _ HPE.out)).trans HPE.out)
  have HZ1 := hide ((hb1.block _ (lt_of_block HZ.out)).trans HZ.out)
  replace HB0 := hide (over HB0.out hb1 HB0.out.size)
  unfold pageBlock at HC HOE HRow HE1 HZ1 HB0 HP1
  clear hown hb hbx hb1 HE HZ HPE
  unfold pageV
  go_upto_region 4 with fail
  obtain ⟨Y, hY⟩ : ∃ Y, Y = w2.alloc (.cells #[.int .i64 L, .slice ao n c] 34) := ⟨_, rfl⟩
  rw [← hY] at HC HOE HRow HE1 HZ1 HB0 HP1 ⊢
  obtain ⟨V, hV⟩ : ∃ V, V = w2.heap.size := ⟨_, rfl⟩
  rw [← hV] at HC ⊢
  clear hY hV
  obtain ⟨k0, k1⟩ := HC.out
  go_wp2_with fail
  refine (pb_ok L ao n c es _ x HE1.out HOE.out.row HLN.out HG.out).mono ?_
  rintro e W ⟨g, rfl, hgb, hown, hb⟩
  have HO := hide hown.row
  replace HRow := hide (HRow.out.below hb (Nat.le_refl _))
  replace HOE := hide (HOE.out.step hb)
  have HZ2 := hide ((hb.block _ (lt_of_block HZ1.out)).trans HZ1.out)
  have hP2 := (hb.cell (World.block_lt_of_cell? _ _ HP1.out)).trans HP1.out
  replace HB0 := hide (over HB0.out hb HB0.out.size)
  clear hown hb hgb k0 k1 HC HE1 HZ1 HP1
  go_wp2_with fail
  refine (equal_any _ _ _ (pageB L es) _ _ _ xs _ HO.out HRow.out (length_pageB L es) HN.out (by omega) (by omega)).mono ?_
  rintro e W' ⟨rfl, rfl⟩
  rw [show sameB (pageB L es) xs = false from decide_eq_false HX.out]
  obtain ⟨B2, hB2⟩ : ∃ B2, B2 = w.heap.size := ⟨_, rfl⟩
  have HLO : Hid (w.heap.size ≤ B2) := by show w.heap.size ≤ B2; omega
  have hne : ¬ 4 = B2 := by have := HLT.out; omega
  have hne2 : ¬ B2 = 4 := fun e => hne e.symm
  rw [← hB2] at HZ2 ⊢
  clear hB2
  have z0 := (cell_row HZ2.out 0).trans (show _ = some (Value.int .i64 0) from rfl)
  have z1 := (cell_row HZ2.out 1).trans (show _ = some (Value.slice none 0 0) from rfl)
  have g0 : W'.frozen? ⟨B2, 0, none⟩ = false := by simp [World.frozen?, HZ2.out]
  have g1 : W'.frozen? ⟨B2, 1, none⟩ = false := by simp [World.frozen?, HZ2.out]
  unfold errV at *
  go_wp2_with fail
  go_region
  all_goals
    go_wp2_with fail
    exact bodyPost_ret (v := .tuple #[.agg #[.int .i64 0, .slice none 0 0], .iface 168 (.pointer (some z))]) (by simp [results, Tryd.results16, go_sem, *]) rfl ⟨rfl, ((below_drew HB0.out).setCell (p := ⟨B2, 0, none⟩) HLO.out _).setCell (p := ⟨B2, 1, none⟩) HLO.out _⟩
/-- Bytes that are no page's. -/
theorem pread_bad (bo : Option Addr) (cap : Nat) (xs : List Int) (w : World) {x z : Addr} (h : Row w bo xs) (hE : w.cell? ⟨0, 0, none⟩ = some (errV x)) (hP : w.cell? ⟨4, 0, none⟩ = some (errV z)) (hn : xs.length = 256) (hi : isPage xs = false) :
    Calls Tryd.prog 16 #[.slice bo 256 cap] w fun e w' => e = .returned (.tuple #[pageV 0 none 0 0, errV z]) ∧ Below w.heap.size w w' := by
  cases hg : okP (lsnOf xs) (entsOf xs) with
  | false => exact pread_bad1 bo cap xs w h hE hP hn hg
  | true =>
    refine pread_bad2 bo cap xs w h hE hP hn hg ?_
    unfold isPage at hi
    rw [hg] at hi
    simpa using hi
end Go.Proofs.YtjacenhblclkaaaDoor
