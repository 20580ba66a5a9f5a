/- The statement CellJoins holds: for every list of lists of bytes and size the law returns true, and its arguments read afterwards as before. No condition. -/
import Derived.Test.YtgbjjogfmlkmeaaFrame
import Derived.Test.YtgbjjogfmlkmeaaRef
import Derived.Deep.Matrix
import Derived.Test.YtgbjjogfmlkmeaaRows
import Derived.WalkKit
import Derived.ProofKit
import Derived.OpenShut
import Derived.ShutString
import Derived.ChangeOld
import Derived.Below
namespace Go.Proofs.Ytgbjjogfmlkmeaa.cellJoins
open Go.ChangeShapes Go.WideShapes Go.ChangeAt Go.RowKit
open Go.ChangeMaps (open_string shut_string)
set_option linter.unusedVariables false

theorem own : ownKnob Try.prog.godebug = none := by kernel_rfl
theorem laidOut : laidOutB Try.prog = true := by kernel_rfl

/-- A slice of slices of bytes that came in: nil; or a row of 'cap' slices. -/
def IsRows (w : World) (a : Option Addr) (len cap : Nat) (A : Nat → Option Addr) (L C : Nat → Nat) (Z : Nat → List Int) : Prop :=
  (a = none ∧ len = 0 ∧ cap = 0) ∨ ∃ x, a = some x ∧ len ≤ cap ∧ cap ≤ maxLen ∧ ∀ r, r < cap → w.cell? (x.add r) = some (.slice (A r) (L r) (C r)) ∧ IsRow .u8 w (A r) (L r) (C r) (Z r)

def sumL (L : Nat → Nat) : Nat → Nat
  | 0 => 0
  | k + 1 => sumL L k + L k
theorem sumL_le (L : Nat → Nat) (k : Nat) (h : ∀ j, j < k → L j ≤ 40) : sumL L k ≤ 40 * k := by
  induction k with
  | zero => simp [sumL]
  | succ k ih =>
    have := ih fun j hj => h j (by omega)
    have := h k (by omega)
    simp only [sumL]
    omega

theorem parts_of {w : World} {A : Nat → Option Addr} {L C : Nat → Nat} {Z : Nat → List Int} (n : Nat) (h : ∀ r, r < n → IsRow .u8 w (A r) (L r) (C r) (Z r)) (hL : ∀ r, r < n → L r ≤ 40) :
    ∃ ls : List Part, ls.length = n ∧ (∀ i (hi : i < ls.length), ls[i].val = .slice (A i) (L i) (C i) ∧ ls[i].isIn w ∧ ls[i].xs.length = L i) := by
  induction n with
  | zero => exact ⟨[], rfl, fun i hi => by simp at hi⟩
  | succ n ih =>
    obtain ⟨ls, h1, h2⟩ := ih (fun r hr => h r (by omega)) (fun r hr => hL r (by omega))
    obtain ⟨xs, e1, e2, e3⟩ := (h n (by omega)).part (by have := hL n (by omega); omega)
    refine ⟨ls ++ [⟨A n, C n, xs⟩], by simp [h1], fun i hi => ?_⟩
    by_cases hin : i < ls.length
    · rw [List.getElem_append_left hin]
      exact h2 i hin
    · have : i = n := by simp [h1] at hi; omega
      subst this
      rw [List.getElem_append_right (by omega)]
      simp only [h1, Nat.sub_self, List.getElem_cons_zero]
      exact ⟨by unfold Part.val; rw [e1], ⟨e2, e3⟩, e1⟩
theorem joinB_len (ls : List Part) (L : Nat → Nat) (h : ∀ i (hi : i < ls.length), ls[i].xs.length = L i) (k : Nat) (hk : k ≤ ls.length) : (joinB (ls.take k)).length = sumL L k := by
  induction k with
  | zero => simp [joinB, sumL]
  | succ k ih => rw [joinB_snoc ls k (by omega), List.length_append, ih (by omega), h k (by omega)]; rfl
theorem IsRows.parts {w : World} {a : Option Addr} {len cap : Nat} {A : Nat → Option Addr} {L C : Nat → Nat} {Z : Nat → List Int} (h : IsRows w a len cap A L C Z) (hlen : len ≤ 6) (hL : ∀ r, r < len → L r ≤ 40) :
    ∃ ls : List Part, ls.length = len ∧ Rows2 w a ls ∧ (∀ i (hi : i < ls.length), ls[i].val = .slice (A i) (L i) (C i) ∧ ls[i].xs.length = L i) ∧ ∀ k, k ≤ len → (joinB (ls.take k)).length = sumL L k := by
  rcases h with ⟨rfl, rfl, rfl⟩ | ⟨x, rfl, h1, h2, h3⟩
  · exact ⟨[], rfl, rows2_nil w, fun i hi => by simp at hi, fun k hk => by
      have : k = 0 := by omega
      subst this
      rfl⟩
  · obtain ⟨ls, e1, e2⟩ := parts_of len (fun r hr => (h3 r (by omega)).2) hL
    have hmem : ∀ p ∈ ls, p.isIn w := by
      intro p hp
      obtain ⟨i, hi, rfl⟩ := List.getElem_of_mem hp
      exact (e2 i hi).2.1
    refine ⟨ls, e1, ⟨by omega, hmem, fun hp => ?_⟩, fun i hi => ⟨(e2 i hi).1, (e2 i hi).2.2⟩, fun k hk => joinB_len ls L (fun i hi => (e2 i hi).2.2) k (by omega)⟩
    obtain ⟨b, off, spot⟩ := x
    have hspot : spot = none := by
      have hc := (h3 0 (by omega)).1
      simpa [Addr.add] using World.cell?_spot hc
    subst hspot
    have hb : b < w.heap.size := by
      have hc := (h3 0 (by omega)).1
      exact World.block_lt_of_cell? w _ hc
    refine ⟨b, off, rfl, hb, fun i hi => ?_⟩
    have := (h3 i (by omega)).1
    rw [Addr.add_lit] at this
    rw [this, (e2 i hi).1]

set_option maxHeartbeats 4000000 in
theorem walk (a0 : Option Addr) (len0 cap0 : Nat) (A : Nat → Option Addr) (L C : Nat → Nat) (Z : Nat → List Int) (a1 : Int) (w : World) (w0 : IsRows w a0 len0 cap0 A L C Z) (w1 : (Lit.int .i64 a1).wf = true) :
    Calls Try.prog 6 #[.slice a0 len0 cap0, .int .i64 a1] w fun e w' => e = .returned (.bool true) ∧ Below w.heap.size w w' := by
  by_cases hl : len0 ≤ 6
  · have H0 := hide w0
    have hd : decide ((6 : Int) < (len0 : Int)) = false := by simp; omega
    clear w0 w1
    go_enter Try.func6, Try.ntmps6
    go_wp2_with fail
    refine (first_any _).mono ?_
    rintro e w1 ⟨rfl, hb⟩
    have HB1 := hide hb
    clear hb
    go_wp2_with fail
    go_loop [6, 7] (fun n i => ∃ k : Nat, k ≤ len0 ∧ i = .int .i64 k ∧ n = .int .i64 (sumL L k) ∧ ∀ j, j < k → L j ≤ 40) (fun _ i => len0 - (intOf i).toNat)
    case atStart => exact ⟨0, by omega, rfl, rfl, fun j hj => by omega⟩
    case round =>
      obtain ⟨k, hk, rfl, rfl, hle⟩ := hrel
      have HLE := hide hle
      have hsl := sumL_le L k hle
      clear hle
      by_cases hlt : k < len0
      · obtain ⟨b, off, ha0, hcell⟩ : ∃ b off, a0 = some ⟨b, off, none⟩ ∧ w1.cell? ⟨b, off + k, none⟩ = some (.slice (A k) (L k) (C k)) := by
          rcases H0.out with ⟨_, e, _⟩ | ⟨x, rfl, h1, h2, h3⟩
          · omega
          · obtain ⟨b, off, spot⟩ := x
            have hc := (h3 k (by omega)).1
            have hc0 := (h3 0 (by omega)).1
            have hspot : spot = none := by simpa [Addr.add] using World.cell?_spot hc0
            subst hspot
            rw [Addr.add_lit] at hc
            have hlt2 := World.block_lt_of_cell? w _ hc
            refine ⟨b, off, rfl, ?_⟩
            rw [HB1.out.cell (by exact hlt2)]
            exact hc
        subst ha0
        by_cases h40 : L k ≤ 40
        · have hd40 : decide ((40 : Int) < (L k : Int)) = false := by simp; omega
          have HS : Hid (sumL L (k + 1) = sumL L k + L k) := rfl
          go_wp2_with fail
          go_round
          case rel => exact ⟨k + 1, by omega, by go_num, by rw [HS.out]; go_num, fun j hj => by
            by_cases e : j = k
            · rw [e]; exact h40
            · exact HLE.out j (by omega)⟩
          case measure => simp [intOf]; omega
        · have hd40 : decide ((40 : Int) < (L k : Int)) = true := by simp; omega
          go_wp2_with fail
          go_ret
          exact ⟨rfl, HB1.out⟩
      · have hk' : k = len0 := by omega
        subst hk'
        obtain ⟨ls, e1, e2, e3, e4⟩ := H0.out.parts hl HLE.out
        have E1 := hide e1
        have E2 := hide e2
        have E3 := hide e3
        have E4 := hide e4
        have hNJ : (joinB ls).length = sumL L k := by
          have := e4 k (Nat.le_refl _)
          rw [List.take_of_length_le (by omega)] at this
          exact this
        obtain ⟨N, hN⟩ : ∃ N, N = sumL L k := ⟨_, rfl⟩
        rw [← hN] at hsl hNJ ⊢
        have HN := hide hNJ
        clear e1 e2 e3 e4 hN hNJ
        go_wp2_with fail
        refine (join_len _ _ _ ls _ (E2.out.below HB1.out (Nat.le_refl _)) E1.out (by rw [HN.out]; omega)).mono ?_
        rintro e w3 ⟨jo, jc, rfl, hown, hbel⟩
        obtain ⟨hjc, hjo⟩ := hown.le
        rw [HN.out] at hjc ⊢
        have HJ := hide hown.row
        have HR3 := hide ((E2.out.below HB1.out (Nat.le_refl _)).below hbel (Nat.le_refl _))
        have HB3 := hide (over HB1.out hbel HB1.out.size)
        have HJO := hide hjo
        clear hown hbel hjo
        go_wp2_with fail
        go_loopw [9, 10] (fun p i wr => ∃ j : Nat, j ≤ k ∧ i = .int .i64 j ∧ p = .int .i64 (joinB (ls.take j)).length ∧ Rows2 wr a0 ls ∧ Row wr jo (joinB ls) ∧ Below w.heap.size w wr) (fun _ i _ => k - (intOf i).toNat)
        case atStart => exact ⟨0, by omega, rfl, rfl, HR3.out, HJ.out, HB3.out⟩
        case round =>
          clear HJ HR3 HB3
          obtain ⟨j, hj, rfl, rfl, hr2, hrj, hbl⟩ := hrel
          have HR := hide hr2
          have HJ := hide hrj
          have HB := hide hbl
          by_cases hjk : j < k
          · have hjl : j < ls.length := by rw [E1.out]; exact hjk
            obtain ⟨b, off, rfl, hb, hc⟩ := hr2.2.2 (by rw [E1.out]; omega)
            have hcp := hc j hjl
            have hpart := joinB_part ls j hjl
            have hsn := joinB_snoc ls j hjl
            have hle := joinB_le ls (j + 1)
            have hpin := hr2.2.1 ls[j] (List.getElem_mem hjl)
            obtain ⟨p, hp⟩ : ∃ p, p = ls[j] := ⟨_, rfl⟩
            rw [← hp] at hcp hpart hsn hpin
            obtain ⟨po, pc, px⟩ := p
            simp only [Part.val] at hcp hpart hsn
            rw [hsn, HN.out, List.length_append] at hle
            have HSN : Hid ((joinB (ls.take (j + 1))).length = (joinB (ls.take j)).length + px.length) := by show _ = _; rw [hsn, List.length_append]
            obtain ⟨M, hM⟩ : ∃ M, M = (joinB (ls.take j)).length := ⟨_, rfl⟩
            rw [← hM] at hpart hle HSN ⊢
            have HPT := hide hpart
            have HPI := hide hpin
            clear hc hp hpart hsn hpin hr2 hrj hbl hM
            have hmi1 : (M : Int) + px.length ≤ (jc : Int) := by omega
            have hjki : (j : Int) < (k : Int) := by omega
            have hcall : ∀ W, Row W jo (joinB ls) → Row W po px → Calls Try.prog 11 #[.slice (if jc = M then jo else Option.map (fun x => x.add M) jo) px.length (jc - M), .slice po px.length pc] W fun e w' => e = .returned (.bool true) ∧ ∃ n, w' = W.drewN n := by
              intro W h1 h2
              have h3 : Row W (if jc = M then jo else Option.map (fun x => x.add M) jo) px := by
                rcases HJO.out with ⟨rfl, hJ0, hc0⟩ | ⟨g, rfl⟩
                · have hpx : px = [] := List.eq_nil_of_length_eq_zero (by omega)
                  subst hpx
                  simp only [Option.map_none, ite_self]
                  exact row_nil W
                · refine h1.part HPT.out _ fun hp => ?_
                  rw [if_neg (by omega), Option.map_some, Addr.add_lit, Nat.zero_add]
              have h4 := same_any _ (jc - M) px po pc px W h3 h2
              rw [sameB_true rfl] at h4
              exact h4
            have HC := hide hcall
            clear hcall
            go_wp2_with fail
            go_quiet ((go_at_call 11; exact Calls.quiet_of (HC.out _ (HJ.out.drewN _) (HPI.out.1.drewN _))))
            go_wp2_with fail
            go_roundw
            case rel => exact ⟨j + 1, by omega, by go_num, by rw [HSN.out]; go_num, HR.out.drewN _, HJ.out.drewN _, below_drewN HB.out _⟩
            case measure => simp [intOf]; omega
          · clear hr2 hrj hbl
            go_wp2_with fail
            refine (number_any _ _ _ (by omega) (by omega)).mono ?_
            rintro e w' ⟨rfl, rfl⟩
            have hn1 := numberB_bd a1 300 (by omega)
            obtain ⟨s, hs⟩ : ∃ s, s = numberB a1 300 := ⟨_, rfl⟩
            rw [← hs] at hn1 ⊢
            clear hs
            go_wp2_with fail
            refine (fill_len _ _ _ (joinB ls) _ _ HJ.out HN.out (by omega)).mono ?_
            rintro e w5 ⟨rfl, hown, hbel⟩
            have HF := hide hown.row
            have HJ5 := hide (HJ.out.below hbel (Nat.le_refl _))
            have HB5 := hide (over HB.out hbel HB.out.size)
            clear hown hbel
            obtain ⟨g, hg⟩ : ∃ g, g = w'.heap.size := ⟨_, rfl⟩
            rw [← hg] at HF ⊢
            clear hg
            have hrow1 : Row w5 (some ⟨g, 0, none⟩) (joinB ls) := HF.out.part (m := 0) (fill_head _ _) _ (fun _ => rfl)
            have H1 := hide hrow1
            clear hrow1
            have hrow2 : ∀ m, m = max s.toNat N - N → ∀ ao, (0 < m → ao = some ⟨g, N, none⟩) → Row w5 ao (List.replicate m 0) := by
              intro m hm ao hao
              refine HF.out.part (m := N) ?_ _ (fun hp => hao (by simpa using hp))
              have := fill_tail (joinB ls) s m (by rw [HN.out]; exact hm)
              rw [HN.out] at this
              exact this
            have H2 := hide hrow2
            clear hrow2
            by_cases hsN : s ≤ N
            · have hmx : max s.toNat N = N := by omega
              rw [hmx] at H2 ⊢
              clear hmx
              go_wp2_with fail
              refine (same_len _ _ _ (joinB ls) _ _ _ (joinB ls) _ H1.out HJ5.out HN.out HN.out).mono ?_
              rintro e w6 ⟨rfl, nq, rfl⟩
              rw [sameB_true rfl]
              go_wp2_with fail
              refine (zero_len _ _ _ (List.replicate 0 0) _ ((H2.out 0 (by omega) _ (fun h => by omega)).drewN nq) List.length_replicate).mono ?_
              rintro e w7 ⟨rfl, rfl⟩
              rw [zero_rep]
              go_wp2_with fail
              go_ret
              exact ⟨rfl, below_drewN HB5.out _⟩
            · obtain ⟨T, rfl⟩ : ∃ T : Nat, s = T := ⟨s.toNat, by omega⟩
              have hmx : max (T : Int).toNat N = T := by omega
              rw [hmx] at H2 ⊢
              clear hmx
              go_wp2_with fail
              refine (same_len _ _ _ (joinB ls) _ _ _ (joinB ls) _ H1.out HJ5.out HN.out HN.out).mono ?_
              rintro e w6 ⟨rfl, nq, rfl⟩
              rw [sameB_true rfl]
              go_wp2_with fail
              refine (zero_len _ _ _ (List.replicate (T - N) 0) _ ((H2.out (T - N) rfl _ (fun _ => rfl)).drewN nq) List.length_replicate).mono ?_
              rintro e w7 ⟨rfl, rfl⟩
              rw [zero_rep]
              go_wp2_with fail
              go_ret
              exact ⟨rfl, below_drewN HB5.out _⟩
  · have hd : decide ((6 : Int) < (len0 : Int)) = true := by simp; omega
    clear w0 w1
    go_enter Try.func6, Try.ntmps6
    go_wp2_with fail
    refine (first_any _).mono ?_
    rintro e w1 ⟨rfl, hb⟩
    have HB := hide hb
    clear hb
    go_wp2_with fail
    go_ret
    exact ⟨rfl, HB.out⟩

set_option maxRecDepth 100000 in
theorem lifted (os : Os) (started : os.Started) (H : Type) (enc : TypeId × Value → H) :
    ReturnsInHanded {} Try.checked os 6 .any (Rows.cellJoinsSpec.pre6 enc Try.prog Try.f6 Rows.cellJoinsRow.domain false) (Rows.cellJoinsSpec.post enc Try.prog Try.f6 false true false false) := by
  refine returnsInHanded_of_change (C := Try.checked) own started (by kernel_rfl) Try.func6
    (ChangeSpec.witness6 (enc := enc) (C := Try.checked) false ⟨#[], #[.slice none 0 0, .int .i64 0], []⟩ 8 (by kernel_rfl) (by kernel_rfl) (by kernel_rfl) (by kernel_rfl)) ?_
  intro W base args ds gs before hval0 hW hcnd _
  have hval : ∀ (j : Nat) t v, Try.f6.params[j]? = some t → args[j]? = some v → Value.okWide Try.prog W .any base t v := hval0
  have hW' := hW
  obtain ⟨p, q, hA0, hV, rfl, hfz, hnd⟩ := hW
  have hA : DataW.TrodAll enc Try.prog W 0 (fun _ => true) true Try.f6.params.toList args.toList ds p := hA0
  rw [Try.params6] at hA hval
  obtain ⟨v0, vs0, d0, ds0, p0, q0, hargs, rfl, rfl, h0, r0⟩ := trodAll_cons hA
  obtain ⟨v1, vs1, d1, ds1, p1, q1, rfl, rfl, rfl, h1, r1⟩ := trodAll_cons r0
  obtain ⟨rfl, rfl, rfl⟩ := trodAll_nil r1
  obtain rfl : args = #[v0, v1] := by cases args; simp_all
  obtain ⟨rfl, rfl⟩ := trodVars_none hV
  obtain ⟨a0, len0, cap0, rfl⟩ := okWide_slice Try.underlying37 (hval 0 37 v0 rfl rfl)
  have k0 := h0
  have lt0 : ∀ x ∈ p0, x.block < W.heap.size := by obtain ⟨m, hm⟩ := k0; exact DataW.trod_lt m _ _ _ hm
  obtain ⟨A, L, C, Z, w0⟩ : ∃ A L C Z, IsRows W a0 len0 cap0 A L C Z := by
    obtain ⟨fuel, hf⟩ := h0
    rcases Go.Deep.open_int_rows Try.underlying37 Try.underlying22 Try.underlying5 (by kernel_rfl) (by kernel_rfl) hf with ⟨hcs, _⟩ | ⟨x, l, c, A, L, C, Z, hcs, _, hl, hm, _, hr⟩
    · simp [Value.cells] at hcs
      obtain ⟨rfl, rfl, rfl⟩ := hcs
      exact ⟨fun _ => none, fun _ => 0, fun _ => 0, fun _ => [], .inl ⟨rfl, rfl, rfl⟩⟩
    · simp [Value.cells] at hcs
      obtain ⟨rfl, rfl, rfl⟩ := hcs
      refine ⟨A, L, C, Z, .inr ⟨_, rfl, hl, hm, fun r hrc => ⟨(hr r hrc).1, ?_⟩⟩⟩
      obtain ⟨_, s1, s2, s3, s4, s5, s6⟩ := hr r hrc
      cases hAr : A r with
      | none =>
        have hC := s5 hAr
        exact .inl ⟨rfl, by omega, hC, List.eq_nil_of_length_eq_zero (by omega)⟩
      | some y => exact .inr ⟨y, rfl, s1, s2, s3, fun i hi => (s6 y hAr).2 i (by omega), s4⟩
  obtain ⟨a1, rfl, rfl, rfl, w1⟩ := open_int Try.underlying3 (hval 1 3 v1 rfl rfl) h1
  clear hA0 hval0
  refine (walk a0 len0 cap0 A L C Z a1 W w0 w1).mono fun e W' ⟨he, bel⟩ => ?_
  subst he
  exact ⟨_, rfl, _, _, _, [], _, [], hW', trodAll_mk1 (shut_bool Try.underlying4 _), (trodAll_cons_mk (Below.trod laidOut (by kernel_rfl) (of_decide_eq_true (by kernel_rfl)) k0 bel lt0) (trodAll_cons_mk (shut_int Try.underlying3 w1) trodAll_mk0)), rfl, bel.frame _, fun h => by cases h⟩

theorem over : Rows.cellJoinsRow.holds Try.pinned (OpenSpec.ofChange Rows.cellJoinsSpec) :=
  OpenClaim.holds_of_wide 6 Try.f6 rfl rfl rfl rfl rfl rfl rfl ⟨rfl, rfl, rfl, rfl, rfl⟩ rfl rfl rfl rfl rfl (by kernel_rfl) Try.func6 (by kernel_rfl)
    (of_decide_eq_true (by kernel_rfl)) (by unfold Func.isWrapper; first | (rw [if_pos (by decide +kernel)]; kernel_rfl) | (rw [if_neg (by decide +kernel)]; exact ⟨rfl, rfl⟩))
    (fun os started H enc _ => lifted os started H enc)
theorem proved : Rows.CellJoinsSaid := over
#print axioms proved
end Go.Proofs.Ytgbjjogfmlkmeaa.cellJoins
namespace Go.Proofs.Ytgbjjogfmlkmeaa
theorem cellJoins_holds : Rows.CellJoinsSaid := cellJoins.proved
end Go.Proofs.Ytgbjjogfmlkmeaa
